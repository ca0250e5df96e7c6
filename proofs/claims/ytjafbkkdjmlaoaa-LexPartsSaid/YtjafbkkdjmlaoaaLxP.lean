/- Layer 7 (lex): LexParts: two texts with an end of a line between have the words of both. From LexOk. -/
import Derived.Test.YtjafbkkdjmlaoaaLxL
import Derived.ChangeMaps
set_option linter.unusedVariables false
set_option linter.unusedSimpArgs false
namespace Go.Proofs.Ytjafbkkdjmlaoaa.lexParts
open Go Go.RowKit

def shiftW (d : Nat) (l : List Wd) : List Wd := l.map fun x => (x.1, x.2.1, x.2.2 + d)
theorem parts {la lb : List UInt8} {ws1 ws2 ws3 : List Wd} {y1 z1 y2 z2 y3 z3 : Nat} (hl : la.length + lb.length ≤ 4096) (h1 : (ws1, y1, z1) = wordsL la) (h2 : (ws2, y2, z2) = wordsL lb) (h3 : (ws3, y3, z3) = wordsL (la ++ 10 :: lb)) :
    (z1 = 5 ∧ ws3 = [] ∧ y3 = y1 ∧ z3 = 5) ∨ (z1 = 0 ∧ z2 = 5 ∧ ws3 = [] ∧ y3 = la.length + 1 + y2 ∧ z3 = 5) ∨ (z1 = 0 ∧ z2 = 0 ∧ z3 = 0 ∧ y3 = 0 ∧ ws3 = ws1 ++ shiftW (la.length + 1) ws2) := by
  have hnl := lexG_nl lb 0 la
  have hsh := lexG_shift (la.length + 1) 0 lb
  rw [show 0 + la.length + 1 = 0 + (la.length + 1) by omega, hsh] at hnl
  have hl3 : (la ++ 10 :: lb).length ≤ 65536 := by rw [List.length_append, List.length_cons]; omega
  rcases wordsL_split (by omega) h1 with ⟨rfl, rfl, e1⟩ | ⟨rfl, rfl, hy, vs, e1⟩
  · rw [e1] at hnl
    rcases wordsL_split (by omega) h2 with ⟨rfl, rfl, e2⟩ | ⟨rfl, rfl, hy, vs, e2⟩
    · rw [e2] at hnl
      rw [wordsL_ok hl3 hnl] at h3
      simp only [Prod.mk.injEq] at h3
      exact .inr (.inr ⟨rfl, rfl, h3.2.2, h3.2.1, h3.1⟩)
    · rw [e2] at hnl
      rw [wordsL_bad hl3 hnl] at h3
      simp only [Prod.mk.injEq] at h3
      exact .inr (.inl ⟨rfl, rfl, h3.1, by rw [h3.2.1]; omega, h3.2.2⟩)
  · rw [e1] at hnl
    rw [wordsL_bad hl3 hnl] at h3
    simp only [Prod.mk.injEq] at h3
    exact .inl ⟨rfl, h3.1, h3.2.1, h3.2.2⟩

set_option maxRecDepth 100000 in
set_option maxHeartbeats 4000000 in
theorem walk (ok : LexOk) (a b : ByteArray) (w : World) (hka : a.size ≤ 140737488351232) (hkb : b.size ≤ 140737488351232) : Calls Try.prog 7 #[sv a, sv b] w fun e w' => e = .returned (.bool true) ∧ Below w.heap.size w w' := by
  by_cases hbig : 4096 < a.size + b.size
  · have hd : decide ((4096 : Int) < (a.size : Int) + (b.size : Int)) = true := by simp; omega
    have HB := Lib.hid (Below.refl w.heap.size w)
    go_enter Try.func7, Try.ntmps7
    repeat (first | go_skip | go_guarded | go_step)
    refine (lWorks_any ok w).mono ?_
    rintro e w9 ⟨rfl, hb9⟩
    have HB9 := Lib.hid (HB.out.trans (hb9.mono HB.out.size))
    clear hb9
    dsimp only
    repeat (first | go_skip | go_guarded | go_step)
    go_ret
    exact ⟨rfl, HB9.out⟩
  · have hd : decide ((4096 : Int) < (a.size : Int) + (b.size : Int)) = false := by simp; omega
    have hla := tb_len a
    have hlb := tb_len b
    go_enter Try.func7, Try.ntmps7
    repeat (first | go_skip | go_guarded | go_step)
    refine (ok.words a w (by omega)).mono ?_
    rintro e w1 ⟨A1, m1, c1, ws1, y1, z1, rfl, ho1, hb1, ha1⟩
    dsimp only
    repeat (first | go_skip | go_guarded | go_step)
    refine (ok.words b w1 (by omega)).mono ?_
    rintro e w2 ⟨A2, m2, c2, ws2, y2, z2, rfl, ho2, hb2, ha2⟩
    have k1 : a.size + 1 ≤ 9223372036854775807 := by omega
    have k2 : ¬ (9223372036854775807 < a.size + 1) := by omega
    have k3 : a.size + 1 + b.size ≤ 9223372036854775807 := by omega
    have k4 : ¬ (9223372036854775807 < a.size + 1 + b.size) := by omega
    dsimp only
    repeat (first | go_skip | go_guarded | go_step)
    have hsz3 : (a ++ ⟨#[10]⟩ ++ b).size ≤ 200000 := by simp only [ByteArray.size_append]; show a.size + 1 + b.size ≤ 200000; omega
    refine (ok.words _ w2 ?hsz).mono ?_
    case hsz => exact hsz3
    clear hsz3
    rintro e w3 ⟨A3, m3, c3, ws3, y3, z3, rfl, ho3, hb3, ha3⟩
    have ht3 : tb (a ++ ⟨#[10]⟩ ++ b) = tb a ++ 10 :: tb b := by rw [tb_add, tb_add, List.append_assoc]; rfl
    replace ha3 := ha3.trans (congrArg wordsL ht3)
    have hP := parts (by omega) ha1 ha2 ha3
    rw [hla] at hP
    have HP2 := Lib.hid (wordsL_at (by omega) ha2)
    rw [hlb] at HP2
    have hs1 := wordsL_small (by omega) ha1
    have hs2 := wordsL_small (by omega) ha2
    obtain rfl : m1 = ws1.length := (rdV_len (OwV.rd ho1)).symm
    obtain rfl : m2 = ws2.length := (rdV_len (OwV.rd ho2)).symm
    obtain rfl : m3 = ws3.length := (rdV_len (OwV.rd ho3)).symm
    have HO2 := Lib.hid (OwV.rd (ownBelow ho2 hb3 (Nat.le_refl _)))
    have hb13 := hb2.trans (hb3.mono hb2.size)
    have HO1 := Lib.hid (OwV.rd (ownBelow ho1 hb13 (Nat.le_refl _)))
    have HO3 := Lib.hid (OwV.rd ho3)
    have HB := Lib.hid (hb1.trans (hb13.mono hb1.size))
    rw [hla] at hs1
    rw [hlb] at hs2
    clear ho1 ho2 ho3 hb1 hb2 hb3 hb13 ha1 ha2 ha3 ht3 hla hlb k1 k2 k3 k4
    dsimp only
    rcases hP with ⟨rfl, rfl, rfl, rfl⟩ | ⟨rfl, rfl, rfl, rfl, rfl⟩ | ⟨rfl, rfl, rfl, rfl, h3⟩
    · repeat (first | go_skip | go_guarded | go_step)
      refine (lWorks_any ok w3).mono ?_
      rintro e w9 ⟨rfl, hb9⟩
      have HB9 := Lib.hid (HB.out.trans (hb9.mono HB.out.size))
      clear hb9
      dsimp only
      repeat (first | go_skip | go_guarded | go_step)
      go_ret
      exact ⟨rfl, HB9.out⟩
    · repeat (first | go_skip | go_guarded | go_step)
      refine (lWorks_any ok w3).mono ?_
      rintro e w9 ⟨rfl, hb9⟩
      have HB9 := Lib.hid (HB.out.trans (hb9.mono HB.out.size))
      clear hb9
      dsimp only
      repeat (first | go_skip | go_guarded | go_step)
      go_ret
      exact ⟨rfl, HB9.out⟩
    · have hn3 : ws3.length = ws1.length + ws2.length := by rw [h3]; simp [shiftW]
      have H3 := Lib.hid h3
      clear h3
      have hne : ((ws3.length : Int) = (ws1.length : Int) + (ws2.length : Int)) = True := by simp; omega
      repeat (first | go_skip | go_guarded | go_step)
      go_loopw [14] (fun p' wr => ∃ (i : Nat), i ≤ ws3.length ∧ p' = .int .i64 (i : Int) ∧ Below w3.heap.size w3 wr) (fun p _ => ws3.length - (intOf p).toNat)
      case atStart => exact ⟨0, by omega, rfl, Below.refl _ _⟩
      case round =>
        rename_i wr
        obtain ⟨i, hi, rfl, hbr⟩ := hrel
        have HBR := Lib.hid hbr
        by_cases hlt : i < ws3.length
        · have hci : (i : Int) < (ws3.length : Int) := by omega
          obtain ⟨b3, o3, ⟨k, t, p⟩, hA3, hbb3, hx3, hc30, hc31, hc32⟩ := rdV_at (HO3.out.below hbr) hlt
          subst hA3
          have hbr0 := hbr
          clear hbr
          dsimp only at hc30 hc31 hc32
          have hcs : (i : Int) < (ws1.length : Int) + (ws2.length : Int) := by omega
          go_upto_region 16 with (fail)
          obtain ⟨U, hU, hk, hbu⟩ : ∃ U, U = wr.alloc (.cells #[.int .u8 0, .string ⟨#[]⟩, .int .i64 0] 36) ∧ Bk U wr.heap.size 36 [.int .u8 0, .string ⟨#[]⟩, .int .i64 0] ∧ Below wr.heap.size wr U := ⟨_, rfl, Bk.new wr _ _, (Below.refl _ _).alloc (Nat.le_refl _) _⟩
          rw [← hU]
          clear hU
          have hbr0 := hbr0.trans (hbu.mono hbr0.size)
          have hsz := HBR.out.size
          have q30 := (hbu.cell (p := ⟨b3, o3 + i * 3, none⟩) (by show b3 < wr.heap.size; omega)).trans hc30
          have q31 := (hbu.cell (p := ⟨b3, o3 + i * 3 + 1, none⟩) (by show b3 < wr.heap.size; omega)).trans hc31
          have q32 := (hbu.cell (p := ⟨b3, o3 + i * 3 + 2, none⟩) (by show b3 < wr.heap.size; omega)).trans hc32
          have hg : b3 ≠ wr.heap.size := by omega
          have g0 := hk.cell 0
          have g1 := hk.cell 1
          have g2 := hk.cell 2
          have f0 := hk.frozen 0
          have f1 := hk.frozen 1
          have f2 := hk.frozen 2
          clear hc30 hc31 hc32
          obtain ⟨g, hge⟩ : ∃ g, g = wr.heap.size := ⟨_, rfl⟩
          rw [← hge] at hk hbu hsz hg g0 g1 g2 f0 f1 f2 ⊢
          clear hge
          by_cases hi1 : i < ws1.length
          · have hci1 : (i : Int) < (ws1.length : Int) := by omega
            obtain ⟨b1, o1, x', hA1, hbb1, hx1, hc10, hc11, hc12⟩ := rdV_at (HO1.out.below hbr0) hi1
            obtain rfl : x' = (k, t, p) := by
              have h := hx3
              rw [H3.out, List.getElem?_append_left hi1, hx1] at h
              exact Option.some.inj h
            subst hA1
            clear hx1 hx3
            dsimp only at hc10 hc11 hc12
            go_upto_region 20 with (fail)
            obtain ⟨V, hV, hkv, hbv⟩ : ∃ V, V = ((U.setCell ⟨g, 0, none⟩ (.int .u8 (k : Int))).setCell ⟨g, 1, none⟩ (strV t)).setCell ⟨g, 2, none⟩ (.int .i64 (p : Int)) ∧ Bk V g 36 [.int .u8 (k : Int), strV t, .int .i64 ((p : Nat) : Int)] ∧ Below g U V := ⟨_, rfl, (((hk).set_ 0 _).set_ 1 _).set_ 2 _, (((Below.refl _ _).setCell (p := ⟨g, 0, none⟩) (Nat.le_refl _) _).setCell (p := ⟨g, 1, none⟩) (Nat.le_refl _) _).setCell (p := ⟨g, 2, none⟩) (Nat.le_refl _) _⟩
            rw [← hV]
            clear hV
            have HBV := Lib.hid (hbr0.trans (hbv.mono hsz))
            obtain ⟨T, hT⟩ : ∃ T : ByteArray, strV t = sv T := ⟨⟨t.toArray⟩, rfl⟩
            rw [hT] at hkv q31
            have r30 : ∀ q, (V.drewN q).cell? ⟨b3, o3 + i * 3, none⟩ = some (.int .u8 (k : Int)) := fun _ => (hbv.cell (p := ⟨b3, o3 + i * 3, none⟩) (by show b3 < g; omega)).trans q30
            have r31 : ∀ q, (V.drewN q).cell? ⟨b3, o3 + i * 3 + 1, none⟩ = some (sv T) := fun _ => (hbv.cell (p := ⟨b3, o3 + i * 3 + 1, none⟩) (by show b3 < g; omega)).trans q31
            have r32 : ∀ q, (V.drewN q).cell? ⟨b3, o3 + i * 3 + 2, none⟩ = some (.int .i64 ((p : Nat) : Int)) := fun _ => (hbv.cell (p := ⟨b3, o3 + i * 3 + 2, none⟩) (by show b3 < g; omega)).trans q32
            have s0 : ∀ q, (V.drewN q).cell? ⟨g, 0, none⟩ = some (.int .u8 (k : Int)) := fun _ => hkv.cell 0
            have s1 : ∀ q, (V.drewN q).cell? ⟨g, 1, none⟩ = some (sv T) := fun _ => hkv.cell 1
            have s2 : ∀ q, (V.drewN q).cell? ⟨g, 2, none⟩ = some (.int .i64 ((p : Nat) : Int)) := fun _ => hkv.cell 2
            clear hk hbu hbv hbr0 g0 g1 g2 f0 f1 f2 hkv hT q30 q31 q32
            change Code.wp _ _ _ _ (V.drewN 0)
            repeat (first | go_skip | go_guarded | go_step)
            go_quiet (fail)
            repeat (first | go_skip | go_guarded | go_step)
            go_roundw
            case rel => exact ⟨i + 1, by omega, by go_num, by first | exact HBV.out | exact ⟨HBV.out.os, HBV.out.tape, HBV.out.output, HBV.out.size, HBV.out.block⟩⟩
            case measure => simp [intOf] <;> omega
          · have hci1 : ¬ ((i : Int) < (ws1.length : Int)) := by omega
            have hi2 : i - ws1.length < ws2.length := by omega
            obtain ⟨b2, o2, ⟨k', t', p'⟩, hA2, hbb2, hx2, hc20, hc21, hc22⟩ := rdV_at (HO2.out.below hbr0) hi2
            have hp' : p' + t'.length ≤ b.size := HP2.out _ (List.mem_of_getElem? hx2)
            obtain ⟨rfl, rfl, rfl⟩ : k' = k ∧ t' = t ∧ p' + (a.size + 1) = p := by
              have h := hx3
              rw [H3.out, List.getElem?_append_right (by omega), shiftW, List.getElem?_map, hx2] at h
              simpa using h
            subst hA2
            obtain ⟨j, rfl⟩ : ∃ j, i = ws1.length + j := ⟨i - ws1.length, by omega⟩
            rw [Nat.add_sub_cancel_left] at hi2 hc20 hc21 hc22
            clear hx2 hx3
            dsimp only at hc20 hc21 hc22
            go_upto_region 20 with (fail)
            obtain ⟨V, hV, hkv, hbv⟩ : ∃ V, V = (((U.setCell ⟨g, 0, none⟩ (.int .u8 (k' : Int))).setCell ⟨g, 1, none⟩ (strV t')).setCell ⟨g, 2, none⟩ (.int .i64 (p' : Int))).setCell ⟨g, 2, none⟩ (.int .i64 ((p' + (a.size + 1) : Nat) : Int)) ∧ Bk V g 36 [.int .u8 (k' : Int), strV t', .int .i64 ((p' + (a.size + 1) : Nat) : Int)] ∧ Below g U V := ⟨_, rfl, ((((hk).set_ 0 _).set_ 1 _).set_ 2 _).set_ 2 _, ((((Below.refl _ _).setCell (p := ⟨g, 0, none⟩) (Nat.le_refl _) _).setCell (p := ⟨g, 1, none⟩) (Nat.le_refl _) _).setCell (p := ⟨g, 2, none⟩) (Nat.le_refl _) _).setCell (p := ⟨g, 2, none⟩) (Nat.le_refl _) _⟩
            have hw : (p' : Int) + (a.size : Int) + 1 = ((p' + (a.size + 1) : Nat) : Int) := by omega
            rw [hw]
            rw [← hV]
            clear hV
            have HBV := Lib.hid (hbr0.trans (hbv.mono hsz))
            obtain ⟨T, hT⟩ : ∃ T : ByteArray, strV t' = sv T := ⟨⟨t'.toArray⟩, rfl⟩
            rw [hT] at hkv q31
            have r30 : ∀ q, (V.drewN q).cell? ⟨b3, o3 + (ws1.length + j) * 3, none⟩ = some (.int .u8 (k' : Int)) := fun _ => (hbv.cell (p := ⟨b3, o3 + (ws1.length + j) * 3, none⟩) (by show b3 < g; omega)).trans q30
            have r31 : ∀ q, (V.drewN q).cell? ⟨b3, o3 + (ws1.length + j) * 3 + 1, none⟩ = some (sv T) := fun _ => (hbv.cell (p := ⟨b3, o3 + (ws1.length + j) * 3 + 1, none⟩) (by show b3 < g; omega)).trans q31
            have r32 : ∀ q, (V.drewN q).cell? ⟨b3, o3 + (ws1.length + j) * 3 + 2, none⟩ = some (.int .i64 ((p' + (a.size + 1) : Nat) : Int)) := fun _ => (hbv.cell (p := ⟨b3, o3 + (ws1.length + j) * 3 + 2, none⟩) (by show b3 < g; omega)).trans q32
            have s0 : ∀ q, (V.drewN q).cell? ⟨g, 0, none⟩ = some (.int .u8 (k' : Int)) := fun _ => hkv.cell 0
            have s1 : ∀ q, (V.drewN q).cell? ⟨g, 1, none⟩ = some (sv T) := fun _ => hkv.cell 1
            have s2 : ∀ q, (V.drewN q).cell? ⟨g, 2, none⟩ = some (.int .i64 ((p' + (a.size + 1) : Nat) : Int)) := fun _ => hkv.cell 2
            clear hk hbu hbv hbr0 g0 g1 g2 f0 f1 f2 hkv hT q30 q31 q32
            change Code.wp _ _ _ _ (V.drewN 0)
            repeat (first | go_skip | go_guarded | go_step)
            go_quiet (fail)
            repeat (first | go_skip | go_guarded | go_step)
            go_roundw
            case rel => exact ⟨(ws1.length + j) + 1, by omega, by go_num, by first | exact HBV.out | exact ⟨HBV.out.os, HBV.out.tape, HBV.out.output, HBV.out.size, HBV.out.block⟩⟩
            case measure => simp [intOf] <;> omega
        · obtain rfl : i = ws3.length := by omega
          have HBW := Lib.hid (HB.out.trans (hbr.mono HB.out.size))
          clear hbr HBR
          repeat (first | go_skip | go_guarded | go_step)
          refine (lWorks_any ok wr).mono ?_
          rintro e w9 ⟨rfl, hb9⟩
          have HB9 := Lib.hid (HBW.out.trans (hb9.mono HBW.out.size))
          clear hb9
          dsimp only
          repeat (first | go_skip | go_guarded | go_step)
          go_ret
          exact ⟨rfl, HB9.out⟩

open Go.ChangeShapes Go.WideShapes Go.ChangeAt

set_option maxRecDepth 100000 in
theorem lifted (ok : LexOk) (os : Os) (started : os.Started) (H : Type) (enc : TypeId × Value → H) :
    ReturnsInHanded {} Try.checked os 7 .any (Rows.lexPartsSpec.pre6 enc Try.prog Try.f7 Rows.lexPartsRow.domain false) (Rows.lexPartsSpec.post enc Try.prog Try.f7 false true false false) := by
  refine returnsInHanded_of_change_sized (C := Try.checked) ownK started (by kernel_rfl) Try.func7
    (ChangeSpec.witness6 (enc := enc) (C := Try.checked) false ⟨#[], #[.string ⟨#[]⟩, .string ⟨#[]⟩], []⟩ 8 (by kernel_rfl) (by kernel_rfl) (by kernel_rfl) (by kernel_rfl)) ?_
  intro W base args ds gs before hval0 hW hcnd hsz0 _
  have hsz : (DataW.weightsEach Try.prog (Try.f7.params.toList ++ Rows.lexPartsSpec.plain.varTypes Try.prog) (ds ++ gs)).all (· ≤ reachBytes) = true := hsz0
  have hval : ∀ (j : Nat) t v, Try.f7.params[j]? = some t → args[j]? = some v → Value.okWide Try.prog W .any base t v := hval0
  have hlt : ∀ x ∈ before, x.block < W.heap.size := fun x hx => by simpa using hW.lt x hx
  have hW' := hW
  obtain ⟨p, q, hA0, hV, rfl, hfz, hnd⟩ := hW
  have hA : DataW.TrodAll enc Try.prog W 0 (fun _ => true) true Try.f7.params.toList args.toList ds p := hA0
  rw [Try.params7] at hA hval hsz
  obtain ⟨v0, vs0, d0, ds0, p0, q0, hargs, rfl, rfl, h0, r0⟩ := trodAll_cons hA
  obtain ⟨v1, vs1, d1, ds1, p1, q1, rfl, rfl, rfl, h1, r1⟩ := trodAll_cons r0
  obtain ⟨rfl, rfl, rfl⟩ := trodAll_nil r1
  obtain rfl : args = #[v0, v1] := by cases args; simp_all
  obtain ⟨rfl, rfl⟩ := trodVars_none hV
  obtain ⟨s, rfl, rfl, rfl, hs0⟩ := Go.ChangeMaps.open_string Try.underlying9 (hval 0 9 v0 rfl rfl) h0
  obtain ⟨u, rfl, rfl, rfl, hs1⟩ := Go.ChangeMaps.open_string Try.underlying9 (hval 1 9 v1 rfl rfl) h1
  have hz0 := sized_string hsz (j := 0) (t := 9) (bytes := s.data.toList) rfl rfl
  have hz1 := sized_string hsz (j := 1) (t := 9) (bytes := u.data.toList) rfl rfl
  have hy0 : s.size ≤ 140737488351232 := by
    rw [show reachBytes = 140737488351232 from rfl] at hz0
    exact hz0
  have hy1 : u.size ≤ 140737488351232 := by
    rw [show reachBytes = 140737488351232 from rfl] at hz1
    exact hz1
  rw [show maxLen = 9223372036854775807 from rfl] at hs0 hs1
  have main : Calls Try.prog 7 #[sv s, sv u] W fun e w' => e = .returned (.bool true) ∧ Below W.heap.size W w' := by
    exact walk ok s u W (by omega) (by omega)
  refine main.mono fun e W' ⟨he, hg⟩ => ?_
  subst he
  exact ⟨_, rfl, post_law laidOut rfl (by kernel_rfl) hW' hg rfl Try.underlying4 rfl rfl rfl⟩

theorem proved_of (ok : LexOk) : Rows.LexPartsSaid :=
  OpenClaim.holds_of_wide 7 Try.f7 rfl rfl rfl rfl rfl rfl rfl ⟨rfl, rfl, rfl, rfl, rfl⟩ rfl rfl rfl rfl rfl (by kernel_rfl) Try.func7 (by kernel_rfl)
    (of_decide_eq_true (by kernel_rfl)) (by unfold Func.isWrapper; first | (rw [if_pos (by decide +kernel)]; kernel_rfl) | (rw [if_neg (by decide +kernel)]; exact ⟨rfl, rfl⟩))
    (fun os started H enc _ => lifted ok os started H enc)
#print axioms proved_of
end Go.Proofs.Ytjafbkkdjmlaoaa.lexParts
