/- Layer 6 (wire): WireTurned from what is asked of the program. -/
import Derived.Test.YtcoafgnbmgndeaaWrQ
import Derived.Test.YtcoafgnbmgndeaaWrAo
import Derived.Test.YtcoafgnbmgndeaaArg
set_option linter.unusedVariables false
set_option linter.unusedSimpArgs false
namespace Go.Proofs.Ytcoafgnbmgndeaa.wireTurned
open Go Go.RowKit

theorem i64_bdW {a : Int} (w : (Lit.int .i64 a).wf = true) : -9223372036854775808 ≤ a ∧ a ≤ 9223372036854775807 := by
  have h1 : IntKind.i64.min = -9223372036854775808 := rfl
  have h2 : IntKind.i64.max = 9223372036854775807 := rfl
  simp only [Lit.wf, Bool.and_eq_true, decide_eq_true_eq] at w
  omega
theorem str_add (a b : List UInt8) : (({ data := a.toArray } : ByteArray) ++ ({ data := b.toArray } : ByteArray)) = { data := (a ++ b).toArray } := by
  apply ByteArray.ext
  rw [ByteArray.data_append]
  simp
theorem anyd_conv8 {ops : Array Oper} {E : Prop} {o : Oper} {a : Act} {w : World} {K : Act → World → Prop} {Q : Exit → Act → World → Prop} (hwant : Region.wanted o (yielded ops a.tmps) = true) (x : Operand)
    (ho : o.op = .convert 22 9 x) (B : Nat) (A : Option Addr) (n c : Nat) (bs : List UInt8) (hx : a.eval x = .slice A n c) (hr : Rd w B 1 A n (bs.map bv))
    (h : K (a.put o.dst (strV bs)) w) : if Region.wanted o (yielded ops a.tmps) = true then Oper.wp Try.prog o a w K Q else E := by
  rw [if_pos hwant]
  have e := run_conv_str (P := Try.prog) w 22 9 5 Try.underlying22 Try.underlying5 Try.underlying9 B A n c bs hr
  unfold Oper.wp execOp
  simp only [ho, hx, Sem.run_bind, e, Result.andThen_ok]
  exact h
theorem bigR_not {c : Rl} (h : bigR c = false) : c.1.2.2.2.length ≤ 100 ∧ c.2.length ≤ 100 ∧ ∀ x ∈ c.2, x.2.2.2.2.length ≤ 100 := by
  unfold bigR at h
  rw [Bool.or_eq_false_iff, Bool.or_eq_false_iff, decide_eq_false_iff_not, decide_eq_false_iff_not, List.any_eq_false] at h
  refine ⟨by omega, by omega, fun x hx => ?_⟩
  have := h.2 x hx
  simp only [decide_eq_true_eq] at this
  omega

theorem owSet {w : World} {base : Nat} {A : Option Addr} {c n : Nat} {l : List UInt8} (h : Ow w base A c n l) {i : Nat} (hi : i < n) :
    ∃ g b, A = some ⟨g, 0, none⟩ ∧ base ≤ g ∧ g < w.heap.size ∧ l[i]? = some b ∧ w.cell? ⟨g, i, none⟩ = some (bv b) ∧ w.frozen? ⟨g, i, none⟩ = false ∧ ∀ y, Ow (w.setCell ⟨g, i, none⟩ (bv y)) base A c n (l.set i y) := by
  have hl := Ow.len h
  rcases h.2 with ⟨_, h0⟩ | ⟨g, cap, cur, hv, hb, hg, h1, h2, h3, h4⟩
  · omega
  · cases hv
    rw [Nat.mul_one] at h4
    have hbk : Bk w g 5 (l.map bv ++ cur.toList.drop n) := by
      unfold Bk
      rw [← h4, List.take_append_drop]
      exact hg
    refine ⟨g, l[i], rfl, hb, hbk.lt, List.getElem?_eq_getElem _, ?_, hbk.frozen i, fun y => ?_⟩
    · rw [hbk.cell, List.getElem?_append_left (by simp; omega), List.getElem?_map, List.getElem?_eq_getElem (by omega)]
      rfl
    · have h5 := hbk.set_ i (bv y)
      rw [List.set_append_left _ _ (by simp; omega), ← List.map_set] at h5
      refine ⟨by simp [hl], .inr ⟨g, c, _, rfl, hb, h5, h1, h2, by simp; omega, ?_⟩⟩
      rw [Nat.mul_one, List.toList_toArray, List.take_append_of_le_length (by simp; omega), List.take_of_length_le (by simp; omega)]
theorem rdPre {w : World} {B : Nat} {A : Option Addr} {n : Nat} {bs : List UInt8} (h : Rd w B 1 A n (bs.map bv)) {k : Nat} (hk : k ≤ n) : Rd w B 1 A k ((bs.take k).map bv) := by
  have hl : bs.length = n := by simpa using h.len1
  refine ⟨by simp; omega, fun h0 => ?_⟩
  obtain ⟨b, o, e, hb, hc⟩ := h.2 (by omega)
  refine ⟨b, o, e, hb, fun j u hu => hc j u ?_⟩
  rw [List.getElem?_map, List.getElem?_take] at hu
  split at hu
  · rw [List.getElem?_map]; exact hu
  · cases hu
theorem xorV (b m : UInt8) : bits .xor .u8 ((b.toNat : Nat) : Int) ((m.toNat : Nat) : Int) = (((b ^^^ m).toNat : Nat) : Int) := by
  rw [u8_xor_nat _ _ (u8_lt b) (u8_lt m), UInt8.toNat_xor]
theorem set_xor0 (l : List UInt8) (i : Nat) (b m : UInt8) (h : l[i]? = some b) (hm : m = 0) : l.set i (b ^^^ m) = l := by
  subst hm
  rw [UInt8.xor_zero]
  exact List.ext_getElem? fun j => by
    rw [List.getElem?_set]
    split
    · rename_i e
      subst e
      split
      · exact h.symm
      · rename_i h2
        rw [List.getElem?_eq_none (by omega)] at h
        cases h
    · rfl
set_option maxRecDepth 100000 in
set_option maxHeartbeats 8000000 in
theorem walk (ok : WireOk) (s0 : Bool) (x0 : Tm) (p : UInt32) (A1 : Option Addr) (n1 c1 : Nat) (l : List Tm) (A3 : Option Addr) (n3 c3 : Nat) (R3 : List SlA) (L3 : List Co) (t : Nat) (m : UInt8) (w : World) (hf : RdT w w.heap.size A1 n1 l) (hf1 : n1 ≤ c1) (hf3 : RdK w w.heap.size A3 n3 R3 L3) (hf4 : n3 ≤ c3) (ht : t < 65536) :
    Calls Try.prog 7 #[.agg #[.bool s0, .bool x0.1, nv x0.2, nv p, .slice A1 n1 c1, .slice A3 n3 c3], .int .u16 (t : Int), .int .u8 (m.toNat : Int)] w fun e w' => e = .returned (.bool true) ∧ Below w.heap.size w w' := by
  obtain ⟨U, hU, hH, hbU⟩ : ∃ U, U = w.alloc (.cells #[.bool s0, .bool x0.1, nv x0.2, nv p, .slice A1 n1 c1, .slice A3 n3 c3] 59) ∧ Bk U w.heap.size 59 [.bool s0, .bool x0.1, nv x0.2, nv p, .slice A1 n1 c1, .slice A3 n3 c3] ∧ Below w.heap.size w U :=
    ⟨_, rfl, Bk.new w _ _, (Below.refl _ _).alloc (Nat.le_refl _) _⟩
  have HU := Lib.hid hU
  have HH := Lib.hid hH
  have HB := Lib.hid hbU
  have HF := Lib.hid ((hf.below hbU).more hbU.size)
  have HL := Lib.hid (rdT_len hf)
  have HF3 := Lib.hid ((hf3.below hbU).more hbU.size)
  have k0 := HH.out.readT (Below.refl _ _) 0 rfl
  have k1 := HH.out.readT (Below.refl _ _) 1 rfl
  have k2 := HH.out.readT (Below.refl _ _) 2 rfl
  have k3 := HH.out.readT (Below.refl _ _) 3 rfl
  have k4 := HH.out.readT (Below.refl _ _) 4 rfl
  have k5 := HH.out.readT (Below.refl _ _) 5 rfl
  clear hU hH hbU hf hf3
  go_enter Try.func7, Try.ntmps7
  go_upto_region 1 with (fail)
  rw [← HU.out]
  clear HU
  generalize hhw : w.heap.size = gx at HH k0 k1 k2 k3 k4 k5 ⊢
  repeat (first | go_skip | go_guarded | go_step)
  refine (rRBig_any s0 x0 p A1 n1 c1 l A3 n3 c3 R3 L3 U HF.out HF3.out).mono ?_
  rintro e w1 ⟨rfl, hb1⟩
  cases hbig : bigR ((s0, x0, (p, l)), L3) with
  | true =>
    dsimp only
    repeat (first | go_skip | go_guarded | go_step)
    refine (wWorks_any ok _).mono ?_
    rintro e w2 ⟨rfl, hb2⟩
    dsimp only
    repeat (first | go_skip | go_guarded | go_step)
    go_ret
    exact ⟨rfl, hhw ▸ HB.out.trans ((hb1.trans (hb2.mono hb1.size)).mono HB.out.size)⟩
  | false =>
    dsimp only
    obtain ⟨hn1, hn3, hk3⟩ := bigR_not hbig
    have hn1 : ¬ 100 < n1 := by have h5 : l.length ≤ 100 := hn1; have := HL.out; omega
    have hn3 : n3 ≤ 100 := by have h5 : L3.length ≤ 100 := hn3; have := HF3.out.lenL; omega
    have hk3 : ∀ x ∈ L3, x.2.2.2.2.length ≤ 100 := hk3
    have HK3 := Lib.hid hk3
    have HV := Lib.hid hb1
    clear hbig hk3 k0 k1 k2 k3 k4 k5 hb1
    have k0 := HH.out.readT (HV.out) 0 rfl
    have k1 := HH.out.readT (HV.out) 1 rfl
    have k2 := HH.out.readT (HV.out) 2 rfl
    have k3 := HH.out.readT (HV.out) 3 rfl
    have k4 := HH.out.readT (HV.out) 4 rfl
    have k5 := HH.out.readT (HV.out) 5 rfl
    repeat (first | go_skip | go_guarded | go_step)
    refine (ok.putRule none 0 0 [] s0 x0 p A1 n1 c1 l A3 n3 c3 R3 L3 w1 Rd.nil (by omega) (by omega) ((HF.out.below HV.out).more HV.out.size) ((HF3.out.below HV.out).more HV.out.size) hf1 hf4 (by omega) (by omega) (fun x hx => Nat.le_trans (HK3.out x hx) (by omega))).mono ?_
    rintro e W2 ⟨A', m', c', z, bs', rfl, ho2, hb2, hz⟩
    have HV2 := Lib.hid (HV.out.trans (hb2.mono HV.out.size))
    have HZ := Lib.hid hz
    have HO2 := Lib.hid ho2
    have HR2 := Lib.hid (Ow.rd ho2)
    clear k0 k1 k2 k3 k4 k5 ho2 hb2 hz
    have k0 := HH.out.readT (HV2.out) 0 rfl
    have k1 := HH.out.readT (HV2.out) 1 rfl
    have k2 := HH.out.readT (HV2.out) 2 rfl
    have k3 := HH.out.readT (HV2.out) 3 rfl
    have k4 := HH.out.readT (HV2.out) 4 rfl
    have k5 := HH.out.readT (HV2.out) 5 rfl
    dsimp only
    repeat (first | go_skip | go_guarded | go_step)
    refine (ok.mayRule s0 x0 p A1 n1 c1 l A3 n3 c3 R3 L3 W2 ((HF.out.below HV2.out).more HV2.out.size) ((HF3.out.below HV2.out).more HV2.out.size) hf1 hf4 (by omega) (by omega) (fun x hx => Nat.le_trans (HK3.out x hx) (by omega))).mono ?_
    rintro e W3 ⟨rfl, hb3⟩
    have HV3 := Lib.hid (HV2.out.trans (hb3.mono HV2.out.size))
    have HR3 := Lib.hid ((HR2.out.below hb3).more hb3.size)
    clear k0 k1 k2 k3 k4 k5 hb3
    rcases HZ.out with ⟨hmay, rfl, rfl⟩ | ⟨hmay, rfl, rfl⟩
    case inr =>
      rw [hmay]
      dsimp only
      obtain rfl : m' = 0 := (Ow.len HO2.out).symm
      repeat (first | go_skip | go_guarded | go_step)
      refine (wWorks_any ok _).mono ?_
      rintro e w2 ⟨rfl, hb2⟩
      dsimp only
      repeat (first | go_skip | go_guarded | go_step)
      go_ret
      exact ⟨rfl, hhw ▸ HB.out.trans ((HV3.out.trans (hb2.mono HV3.out.size)).mono HB.out.size)⟩
    case inl =>
      rw [hmay]
      dsimp only
      rw [List.nil_append] at HO2 HR3
      have hlen := ruleB_len hmay
      have hm' := Ow.len HO2.out
      have HMAY := Lib.hid hmay
      obtain ⟨bs, hbs⟩ : ∃ bs, bs = ruleB ((s0, x0, (p, l)), L3) := ⟨_, rfl⟩
      have HBS := Lib.hid hbs
      rw [← hbs] at HO2 HR3 hlen hm'
      have hcap := Ow.le HO2.out
      clear hmay HZ HR2 hbs
      have d0 : ((m' : Int) == 0) = false := by rw [beq_eq_false_iff_ne]; omega
      have d1 : decide ((387 : Int) < (m' : Int)) = false := by simp; omega
      obtain ⟨k, hk⟩ : ∃ k, k = t % m' := ⟨_, rfl⟩
      have hkm : k < m' := by rw [hk]; exact Nat.mod_lt _ (by omega)
      have e0 : (t : Int).tmod (m' : Int) = (k : Int) := by rw [Int.tmod_eq_emod_of_nonneg (by omega), hk]; simp
      have e1 : (t : Int) % (m' : Int) = (k : Int) := by rw [hk]; simp
      have e2 : IntKind.i64.wrap (t : Int) = (t : Int) := by rw [IntKind.wrap_i64] <;> omega
      have e3 : IntKind.i64.wrap (k : Int) = (k : Int) := by rw [IntKind.wrap_i64] <;> omega
      have hk2 : decide (k ≤ c') = true := by simp; omega
      have hi0 : 0 ≤ (t : Int) := by omega
      have hi1 : (t : Int) < 65536 := by omega
      have hnz1 : 0 < (m' : Int) := by omega
      have hji : (k : Int) < (m' : Int) := by omega
      clear hk
      repeat (first | go_skip | go_guarded | go_step)
      refine (ok.takeRule A' k c' 0 (bs.take k) W3 (rdPre HR3.out (by omega)) (by omega) (by omega) (by omega) (by omega)).mono ?_
      rintro e W4 ⟨s4, x4, p4, A4, n4, d4, l4, A6, n6, d6, R6, L6, y4, z4, rfl, hx4, hx6, hd4, hd6, hm4, hm6, hs6, hb4, ha4⟩
      rw [HBS.out, takeAns_cut ruleC zR ((s0, x0, (p, l)), L3) HMAY.out k (by rw [← HBS.out]; omega)] at ha4
      simp only [Prod.mk.injEq] at ha4
      obtain ⟨⟨⟨rfl, rfl, rfl, rfl⟩, rfl⟩, rfl, rfl⟩ := ha4
      have HV4 := Lib.hid (HV3.out.trans (hb4.mono HV3.out.size))
      have HR4 := Lib.hid ((HR3.out.below hb4).more hb4.size)
      clear hx4 hx6 hd4 hd6 hm4 hm6 hs6 hb4 e0 e1 e2 e3
      dsimp only
      go_upto_region 12 with (fail)
      obtain ⟨W5, hW5, hb5⟩ : ∃ W5, W5 = W4.alloc (.cells #[.bool false, .bool false, .int .u32 0, .int .u32 0, .slice A4 n4 d4, .slice A6 n6 d6] 59) ∧ Below W4.heap.size W4 W5 := ⟨_, rfl, (Below.refl _ _).alloc (Nat.le_refl _) _⟩
      rw [← hW5]
      clear hW5
      have HV5 := Lib.hid (HV4.out.trans (hb5.mono HV4.out.size))
      have HR5 := Lib.hid ((HR4.out.below hb5).more hb5.size)
      clear hb5
      repeat (first
        | (at_builtin; refine app8h _ rfl (.tmp 65) (.tmp 66) rfl W5.heap.size (some ⟨W5.heap.size, 0, none⟩) 0 0 [] rfl (owLit0 W5 _ (Nat.le_refl _)) W5.heap.size A' m' c' bs rfl (HR5.out.below ((Below.refl _ _).alloc (Nat.le_refl _) _)) (by omega) (by simp) ?_
           intro A7 c7 W7 ho7 hb7
           have hb57 := ((Below.refl W5.heap.size W5).alloc (Nat.le_refl _) (.cells #[] 5)).trans hb7
           rw [List.nil_append, Nat.zero_add] at ho7
           obtain ⟨g7, b7, rfl, hg7, hgs7, hbk7, hc7, hf7, hset7⟩ := owSet ho7 hkm
           replace hc7 : W7.cell? ⟨g7, k, none⟩ = some (.int .u8 (b7.toNat : Int)) := hc7
           have xx := xorV b7 m
           have HO7 := Lib.hid ho7
           have HS7 := Lib.hid hset7
           have HBK := Lib.hid hbk7
           have HB57 := Lib.hid hb57
           clear ho7 hb7 hset7 hbk7 hb57)
        | (go_not_at_region 14; first | go_skip | go_guarded | go_step))
      obtain ⟨W8, hW8⟩ : ∃ W8, W8 = W7.setCell ⟨g7, k, none⟩ (.int .u8 ((b7.toNat ^^^ m.toNat : Nat) : Int)) := ⟨_, rfl⟩
      rw [← hW8]
      obtain ⟨bs2, hbs2⟩ : ∃ bs2, bs2 = bs.set k (b7 ^^^ m) := ⟨_, rfl⟩
      have ho8 : Ow W8 W5.heap.size (some ⟨g7, 0, none⟩) c7 m' bs2 := by rw [hW8, hbs2, ← UInt8.toNat_xor]; exact HS7.out _
      have hv8 : Below U.heap.size U W8 := by
        rw [hW8]
        have hs5 := HV5.out.size
        exact Below.setCell (HV5.out.trans (HB57.out.mono hs5)) (p := ⟨g7, k, none⟩) (by show U.heap.size ≤ g7; omega) _
      have HV8 := Lib.hid hv8
      have HO8 := Lib.hid ho8
      have HBS2 := Lib.hid hbs2
      have hcap7 := Ow.le ho8
      clear hW8 hbs2 ho8 hv8 HS7 hg7 hgs7 hc7 hf7 xx HB57
      repeat (first | go_skip | go_guarded | go_step)
      refine (ok.takeRule (some ⟨g7, 0, none⟩) m' c7 0 bs2 W8 (Ow.rd HO8.out) (by omega) (by omega) (by omega) (by omega)).mono ?_
      rintro e W9 ⟨s5, x5, p5, A8, n8, d8, l8, A9, n9, d9, R9, L9, y5, z5, rfl, hx8, hx9, hd8, hd9, hm8, hm9, hs9, hb9, ha9⟩
      have HV9 := Lib.hid (HV8.out.trans (hb9.mono HV8.out.size))
      have HR9 := Lib.hid (Rd.below (Ow.rd HO8.out) hb9)
      have HR9 := Lib.hid (HR9.out.more hb9.size)
      have HX8 := Lib.hid hx8
      have HX9 := Lib.hid hx9
      have HS9 := Lib.hid hs9
      have HA9 := Lib.hid ha9
      have hl2 : bs2.length = m' := Ow.len HO8.out
      have HL2 := Lib.hid hl2
      clear hx8 hx9 hs9 hb9 ha9 hl2
      dsimp only
      go_upto_region 15 with (fail)
      obtain ⟨Z, hZ, hZa, hZw⟩ : ∃ Z, Z = W9.alloc (.cells #[.bool s5, .bool x5.1, nv x5.2, nv p5, .slice A8 n8 d8, .slice A9 n9 d9] 59) ∧ Bk Z W9.heap.size 59 [.bool s5, .bool x5.1, nv x5.2, nv p5, .slice A8 n8 d8, .slice A9 n9 d9] ∧ Below W9.heap.size W9 Z := ⟨_, rfl, Bk.new W9 _ _, (Below.refl _ _).alloc (Nat.le_refl _) _⟩
      rw [← hZ]
      clear hZ
      have HVZ := Lib.hid (HV9.out.trans (hZw.mono HV9.out.size))
      have HRZ := Lib.hid ((HR9.out.below hZw).more hZw.size)
      have HXA := Lib.hid ((HX8.out.below hZw).more hZw.size)
      have HXB := Lib.hid ((HX9.out.below hZw).more hZw.size)
      have HZA := Lib.hid hZa
      generalize W9.heap.size = gz at hZa HZA ⊢
      clear hZa hZw
      by_cases hz : z5 = 0
      · subst hz
        obtain ⟨hmay5, hy5, he5, hle5⟩ := takeAns_back0 ruleC HA9.out.symm
        have hy5m : y5 ≤ m' := by have := HL2.out; omega
        have HM5 := Lib.hid hmay5
        have HE5 := Lib.hid he5
        have HLE5 := Lib.hid hle5
        clear hmay5 he5 hle5 hy5
        have i0 := HZA.out.readT (Below.refl _ _) 0 rfl
        have i1 := HZA.out.readT (Below.refl _ _) 1 rfl
        have i2 := HZA.out.readT (Below.refl _ _) 2 rfl
        have i3 := HZA.out.readT (Below.refl _ _) 3 rfl
        have i4 := HZA.out.readT (Below.refl _ _) 4 rfl
        have i5 := HZA.out.readT (Below.refl _ _) 5 rfl
        by_cases hm0 : m.toNat = 0
        · have hmz : ((m.toNat : Int) == 0) = true := by rw [beq_iff_eq]; omega
          repeat (first | go_skip | go_guarded | go_step)
          refine (ok.putRule none 0 0 [] s5 x5 p5 A8 n8 d8 l8 A9 n9 d9 R9 L9 Z Rd.nil (by omega) (by omega) HXA.out HXB.out hd8 hd9 (by omega) (by omega) (fun x hx => Nat.le_trans (HS9.out x hx) (by omega))).mono ?_
          rintro e W10 ⟨A10, m10, c10, z10, bs10, rfl, ho10, hb10, hzz⟩
          rcases hzz with ⟨_, rfl, rfl⟩ | ⟨h, _, _⟩
          case inr => rw [HM5.out] at h; cases h
          rw [List.nil_append, HE5.out] at ho10
          have hl10 := Ow.len ho10
          obtain rfl : m10 = y5 := by rw [← hl10, ← HE5.out]; exact HLE5.out.symm
          have HO10 := Lib.hid ho10
          have HVX := Lib.hid (HVZ.out.trans (hb10.mono HVZ.out.size))
          have HRX := Lib.hid ((HRZ.out.below hb10).more hb10.size)
          have HPX := Lib.hid (rdPre HRX.out hy5m)
          have hk9 : decide (m10 ≤ c7) = true := by simp; omega
          have hk8 : decide ((m10 : Int) ≤ (m' : Int)) = true := by simp; omega
          clear i0 i1 i2 i3 i4 i5 ho10 hb10 hl10 HE5 HLE5
          dsimp only
          go_upto_region 20 with (fail)
          refine wp_region_held_drew (S := fun V => Below W10.heap.size W10 V) (by kernel_rfl) ?_ (fun hHeld => ?_)
          · exact (Below.refl W10.heap.size W10).drew
          refine wpAnyH_take (i := 0) (oi := ?oid1) (v := ?vd1) ?hod1 (by kernel_rfl) ?hfd1 ?hrd1 ?hQd1 ?hyd1 hHeld ?restd1
          case hod1 => (simp only [List.getElem?_toArray, List.getElem?_cons_succ, List.getElem?_cons_zero]; exact rfl)
          case hfd1 => kernel_rfl
          case hrd1 => kernel_rfl
          case hQd1 => exact fun _ _ _ h => h
          case hyd1 =>
            refine Or.inl ⟨by rfl, ?_⟩
            intro V hSV
            go_simp
            (try with_reducible rfl)
          try simp only [Act.put, List.setIfInBounds_toArray, List.set_cons_zero, List.set_cons_succ]
          refine wpAnyH_take (i := 1) (oi := ?oid2) (v := ?vd2) ?hod2 (by kernel_rfl) ?hfd2 ?hrd2 ?hQd2 ?hyd2 hHeld ?restd2
          case hod2 => (simp only [List.getElem?_toArray, List.getElem?_cons_succ, List.getElem?_cons_zero]; exact rfl)
          case hfd2 => kernel_rfl
          case hrd2 => kernel_rfl
          case hQd2 => exact fun _ _ _ h => h
          case hyd2 =>
            refine Or.inl ⟨by rfl, ?_⟩
            intro V hSV
            go_simp
            (try with_reducible rfl)
          try simp only [Act.put, List.setIfInBounds_toArray, List.set_cons_zero, List.set_cons_succ]
          refine wpAnyH_take (i := 2) (oi := ?oid3) (v := ?vd3) ?hod3 (by kernel_rfl) ?hfd3 ?hrd3 ?hQd3 ?hyd3 hHeld ?restd3
          case hod3 => (simp only [List.getElem?_toArray, List.getElem?_cons_succ, List.getElem?_cons_zero]; exact rfl)
          case hfd3 => kernel_rfl
          case hrd3 => kernel_rfl
          case hQd3 => exact fun _ _ _ h => h
          case hyd3 =>
            refine Or.inl ⟨by rfl, ?_⟩
            intro V hSV
            go_simp
            (try with_reducible rfl)
          try simp only [Act.put, List.setIfInBounds_toArray, List.set_cons_zero, List.set_cons_succ]
          refine wpAnyH_take (i := 3) (oi := ?oid4) (v := ?vd4) ?hod4 (by kernel_rfl) ?hfd4 ?hrd4 ?hQd4 ?hyd4 hHeld ?restd4
          case hod4 => (simp only [List.getElem?_toArray, List.getElem?_cons_succ, List.getElem?_cons_zero]; exact rfl)
          case hfd4 => kernel_rfl
          case hrd4 => kernel_rfl
          case hQd4 => exact fun _ _ _ h => h
          case hyd4 =>
            refine Or.inl ⟨by rfl, ?_⟩
            intro V hSV
            go_simp
            (try with_reducible rfl)
          try simp only [Act.put, List.setIfInBounds_toArray, List.set_cons_zero, List.set_cons_succ]
          refine wpAnyH_take (i := 4) (oi := ?oid5) (v := ?vd5) ?hod5 (by kernel_rfl) ?hfd5 ?hrd5 ?hQd5 ?hyd5 hHeld ?restd5
          case hod5 => (simp only [List.getElem?_toArray, List.getElem?_cons_succ, List.getElem?_cons_zero]; exact rfl)
          case hfd5 => kernel_rfl
          case hrd5 => kernel_rfl
          case hQd5 => exact fun _ _ _ h => h
          case hyd5 =>
            refine Or.inl ⟨by rfl, ?_⟩
            intro V hSV
            go_simp
            (try with_reducible rfl)
          try simp only [Act.put, List.setIfInBounds_toArray, List.set_cons_zero, List.set_cons_succ]
          refine wpAnyH_take (i := 5) (oi := ?oid6) (v := ?vd6) ?hod6 (by kernel_rfl) ?hfd6 ?hrd6 ?hQd6 ?hyd6 hHeld ?restd6
          case hod6 => (simp only [List.getElem?_toArray, List.getElem?_cons_succ, List.getElem?_cons_zero]; exact rfl)
          case hfd6 => kernel_rfl
          case hrd6 => kernel_rfl
          case hQd6 => exact fun _ _ _ h => h
          case hyd6 =>
            refine Or.inl ⟨by rfl, ?_⟩
            intro V hSV
            go_simp
            (try with_reducible rfl)
          try simp only [Act.put, List.setIfInBounds_toArray, List.set_cons_zero, List.set_cons_succ]
          refine wpAnyH_take (i := 6) (oi := ?oid7) (v := ?vd7) ?hod7 (by kernel_rfl) ?hfd7 ?hrd7 ?hQd7 ?hyd7 hHeld ?restd7
          case hod7 => (simp only [List.getElem?_toArray, List.getElem?_cons_succ, List.getElem?_cons_zero]; exact rfl)
          case hfd7 => kernel_rfl
          case hrd7 => kernel_rfl
          case hQd7 => exact fun _ _ _ h => h
          case hyd7 =>
            refine Or.inl ⟨by rfl, ?_⟩
            intro V hSV
            go_simp
            (try with_reducible rfl)
          try simp only [Act.put, List.setIfInBounds_toArray, List.set_cons_zero, List.set_cons_succ]
          refine wpAnyH_take (i := 7) (oi := ?oid8) (v := ?vd8) ?hod8 (by kernel_rfl) ?hfd8 ?hrd8 ?hQd8 ?hyd8 hHeld ?restd8
          case hod8 => (simp only [List.getElem?_toArray, List.getElem?_cons_succ, List.getElem?_cons_zero]; exact rfl)
          case hfd8 => kernel_rfl
          case hrd8 => kernel_rfl
          case hQd8 => exact fun _ _ _ h => h
          case hyd8 =>
            refine Or.inl ⟨by rfl, ?_⟩
            intro V hSV
            go_simp
            (try with_reducible rfl)
          try simp only [Act.put, List.setIfInBounds_toArray, List.set_cons_zero, List.set_cons_succ]
          refine wpAnyH_take (i := 8) (oi := ?oid9) (v := ?vd9) ?hod9 (by kernel_rfl) ?hfd9 ?hrd9 ?hQd9 ?hyd9 hHeld ?restd9
          case hod9 => (simp only [List.getElem?_toArray, List.getElem?_cons_succ, List.getElem?_cons_zero]; exact rfl)
          case hfd9 => kernel_rfl
          case hrd9 => kernel_rfl
          case hQd9 => exact fun _ _ _ h => h
          case hyd9 =>
            refine Or.inl ⟨by rfl, ?_⟩
            intro V hSV
            go_simp
            (try with_reducible rfl)
          try simp only [Act.put, List.setIfInBounds_toArray, List.set_cons_zero, List.set_cons_succ]
          refine wpAnyH_take (i := 9) (oi := ?oid10) (v := ?vd10) ?hod10 (by kernel_rfl) ?hfd10 ?hrd10 ?hQd10 ?hyd10 hHeld ?restd10
          case hod10 => (simp only [List.getElem?_toArray, List.getElem?_cons_succ, List.getElem?_cons_zero]; exact rfl)
          case hfd10 => kernel_rfl
          case hrd10 => kernel_rfl
          case hQd10 => exact fun _ _ _ h => h
          case hyd10 =>
            refine Or.inl ⟨by rfl, ?_⟩
            intro V hSV
            go_simp
            (try with_reducible rfl)
          try simp only [Act.put, List.setIfInBounds_toArray, List.set_cons_zero, List.set_cons_succ]
          refine wpAnyH_take (i := 10) (oi := ?oid11) (v := ?vd11) ?hod11 (by kernel_rfl) ?hfd11 ?hrd11 ?hQd11 ?hyd11 hHeld ?restd11
          case hod11 => (simp only [List.getElem?_toArray, List.getElem?_cons_succ, List.getElem?_cons_zero]; exact rfl)
          case hfd11 => kernel_rfl
          case hrd11 => kernel_rfl
          case hQd11 => exact fun _ _ _ h => h
          case hyd11 =>
            refine Or.inl ⟨by rfl, ?_⟩
            intro V hSV
            go_simp
            (try with_reducible rfl)
          try simp only [Act.put, List.setIfInBounds_toArray, List.set_cons_zero, List.set_cons_succ]
          refine wpAnyH_take (i := 11) (oi := ?oid12) (v := ?vd12) ?hod12 (by kernel_rfl) ?hfd12 ?hrd12 ?hQd12 ?hyd12 hHeld ?restd12
          case hod12 => (simp only [List.getElem?_toArray, List.getElem?_cons_succ, List.getElem?_cons_zero]; exact rfl)
          case hfd12 => kernel_rfl
          case hrd12 => kernel_rfl
          case hQd12 => exact fun _ _ _ h => h
          case hyd12 =>
            refine Or.inl ⟨by rfl, ?_⟩
            intro V hSV
            go_simp
            (try with_reducible rfl)
          try simp only [Act.put, List.setIfInBounds_toArray, List.set_cons_zero, List.set_cons_succ]
          refine wpAnyH_take (i := 12) (oi := ?oid13) (v := ?vd13) ?hod13 (by kernel_rfl) ?hfd13 ?hrd13 ?hQd13 ?hyd13 hHeld ?restd13
          case hod13 => (simp only [List.getElem?_toArray, List.getElem?_cons_succ, List.getElem?_cons_zero]; exact rfl)
          case hfd13 => kernel_rfl
          case hrd13 => kernel_rfl
          case hQd13 => exact fun _ _ _ h => h
          case hyd13 =>
            refine Or.inl ⟨by rfl, ?_⟩
            intro V hSV
            go_simp
            (try with_reducible rfl)
          try simp only [Act.put, List.setIfInBounds_toArray, List.set_cons_zero, List.set_cons_succ]
          refine wpAnyH_take (i := 13) (oi := ?oid14) (v := ?vd14) ?hod14 (by kernel_rfl) ?hfd14 ?hrd14 ?hQd14 ?hyd14 hHeld ?restd14
          case hod14 => (simp only [List.getElem?_toArray, List.getElem?_cons_succ, List.getElem?_cons_zero]; exact rfl)
          case hfd14 => kernel_rfl
          case hrd14 => kernel_rfl
          case hQd14 => exact fun _ _ _ h => h
          case hyd14 =>
            refine Or.inl ⟨by rfl, ?_⟩
            intro V hSV
            go_simp
            (try with_reducible rfl)
          try simp only [Act.put, List.setIfInBounds_toArray, List.set_cons_zero, List.set_cons_succ]
          refine wpAnyH_take (i := 14) (oi := ?oid15) (v := ?vd15) ?hod15 (by kernel_rfl) ?hfd15 ?hrd15 ?hQd15 ?hyd15 hHeld ?restd15
          case hod15 => (simp only [List.getElem?_toArray, List.getElem?_cons_succ, List.getElem?_cons_zero]; exact rfl)
          case hfd15 => kernel_rfl
          case hrd15 => kernel_rfl
          case hQd15 => exact fun _ _ _ h => h
          case hyd15 =>
            refine Or.inl ⟨by rfl, ?_⟩
            intro V hSV
            go_simp
            (try with_reducible rfl)
          try simp only [Act.put, List.setIfInBounds_toArray, List.set_cons_zero, List.set_cons_succ]
          refine wpAnyH_take (i := 15) (oi := ?oid16) (v := ?vd16) ?hod16 (by kernel_rfl) ?hfd16 ?hrd16 ?hQd16 ?hyd16 hHeld ?restd16
          case hod16 => (simp only [List.getElem?_toArray, List.getElem?_cons_succ, List.getElem?_cons_zero]; exact rfl)
          case hfd16 => kernel_rfl
          case hrd16 => kernel_rfl
          case hQd16 => exact fun _ _ _ h => h
          case hyd16 =>
            refine Or.inl ⟨by rfl, ?_⟩
            intro V hSV
            go_simp
            (try with_reducible rfl)
          try simp only [Act.put, List.setIfInBounds_toArray, List.set_cons_zero, List.set_cons_succ]
          refine wpAnyH_take (i := 16) (oi := ?oid17) (v := ?vd17) ?hod17 (by kernel_rfl) ?hfd17 ?hrd17 ?hQd17 ?hyd17 hHeld ?restd17
          case hod17 => (simp only [List.getElem?_toArray, List.getElem?_cons_succ, List.getElem?_cons_zero]; exact rfl)
          case hfd17 => kernel_rfl
          case hrd17 => kernel_rfl
          case hQd17 => exact fun _ _ _ h => h
          case hyd17 =>
            refine Or.inl ⟨by rfl, ?_⟩
            intro V hSV
            have q := run_conv_str (P := Try.prog) V 22 9 5 Try.underlying22 Try.underlying5 Try.underlying9 _ _ m10 c10 (bs2.take m10) (Rd.below (Ow.rd HO10.out) hSV)
            go_simp
            (try with_reducible rfl)
          try simp only [Act.put, List.setIfInBounds_toArray, List.set_cons_zero, List.set_cons_succ]
          refine wpAnyH_take (i := 17) (oi := ?oid18) (v := ?vd18) ?hod18 (by kernel_rfl) ?hfd18 ?hrd18 ?hQd18 ?hyd18 hHeld ?restd18
          case hod18 => (simp only [List.getElem?_toArray, List.getElem?_cons_succ, List.getElem?_cons_zero]; exact rfl)
          case hfd18 => kernel_rfl
          case hrd18 => kernel_rfl
          case hQd18 => exact fun _ _ _ h => h
          case hyd18 =>
            refine Or.inl ⟨by rfl, ?_⟩
            intro V hSV
            go_simp
            (try with_reducible rfl)
          try simp only [Act.put, List.setIfInBounds_toArray, List.set_cons_zero, List.set_cons_succ]
          refine wpAnyH_take (i := 18) (oi := ?oid19) (v := ?vd19) ?hod19 (by kernel_rfl) ?hfd19 ?hrd19 ?hQd19 ?hyd19 hHeld ?restd19
          case hod19 => (simp only [List.getElem?_toArray, List.getElem?_cons_succ, List.getElem?_cons_zero]; exact rfl)
          case hfd19 => kernel_rfl
          case hrd19 => kernel_rfl
          case hQd19 => exact fun _ _ _ h => h
          case hyd19 =>
            refine Or.inl ⟨by rfl, ?_⟩
            intro V hSV
            go_simp
            (try with_reducible rfl)
          try simp only [Act.put, List.setIfInBounds_toArray, List.set_cons_zero, List.set_cons_succ]
          refine wpAnyH_take (i := 19) (oi := ?oid20) (v := .slice (some ⟨g7, 0, none⟩) m10 c7) ?hod20 (by kernel_rfl) ?hfd20 ?hrd20 ?hQd20 ?hyd20 hHeld ?restd20
          case hod20 => (simp only [List.getElem?_toArray, List.getElem?_cons_succ, List.getElem?_cons_zero]; exact rfl)
          case hfd20 => kernel_rfl
          case hrd20 => kernel_rfl
          case hQd20 => exact fun _ _ _ h => h
          case hyd20 =>
            refine Or.inl ⟨by rfl, ?_⟩
            intro V hSV
            go_simp
            (intro h9; omega)
          try simp only [Act.put, List.setIfInBounds_toArray, List.set_cons_zero, List.set_cons_succ]
          refine wpAnyH_take (i := 20) (oi := ?oid21) (v := ?vd21) ?hod21 (by kernel_rfl) ?hfd21 ?hrd21 ?hQd21 ?hyd21 hHeld ?restd21
          case hod21 => (simp only [List.getElem?_toArray, List.getElem?_cons_succ, List.getElem?_cons_zero]; exact rfl)
          case hfd21 => kernel_rfl
          case hrd21 => kernel_rfl
          case hQd21 => exact fun _ _ _ h => h
          case hyd21 =>
            refine Or.inl ⟨by rfl, ?_⟩
            intro V hSV
            have q := run_conv_str (P := Try.prog) V 22 9 5 Try.underlying22 Try.underlying5 Try.underlying9 _ _ m10 c7 (bs2.take m10) (HPX.out.below hSV)
            go_simp
            (try with_reducible rfl)
          try simp only [Act.put, List.setIfInBounds_toArray, List.set_cons_zero, List.set_cons_succ]
          refine wpAnyH_take (i := 21) (oi := ?oid22) (v := .bool true) ?hod22 (by kernel_rfl) ?hfd22 ?hrd22 ?hQd22 ?hyd22 hHeld ?restd22
          case hod22 => (simp only [List.getElem?_toArray, List.getElem?_cons_succ, List.getElem?_cons_zero]; exact rfl)
          case hfd22 => kernel_rfl
          case hrd22 => kernel_rfl
          case hQd22 => exact fun _ _ _ h => h
          case hyd22 =>
            refine Or.inl ⟨by rfl, ?_⟩
            intro V hSV
            go_simp
            (try simp)
          try simp only [Act.put, List.setIfInBounds_toArray, List.set_cons_zero, List.set_cons_succ]
          refine wpAnyH_take (i := 22) (oi := ?oid23) (v := ?vd23) ?hod23 (by kernel_rfl) ?hfd23 ?hrd23 ?hQd23 ?hyd23 hHeld ?restd23
          case hod23 => (simp only [List.getElem?_toArray, List.getElem?_cons_succ, List.getElem?_cons_zero]; exact rfl)
          case hfd23 => kernel_rfl
          case hrd23 => kernel_rfl
          case hQd23 => exact fun _ _ _ h => h
          case hyd23 =>
            refine Or.inl ⟨by rfl, ?_⟩
            intro V hSV
            go_simp
            (try with_reducible rfl)
          try simp only [Act.put, List.setIfInBounds_toArray, List.set_cons_zero, List.set_cons_succ]
          refine wpAnyH_take (i := 23) (oi := ?oid24) (v := ?vd24) ?hod24 (by kernel_rfl) ?hfd24 ?hrd24 ?hQd24 ?hyd24 hHeld ?restd24
          case hod24 => (simp only [List.getElem?_toArray, List.getElem?_cons_succ, List.getElem?_cons_zero]; exact rfl)
          case hfd24 => kernel_rfl
          case hrd24 => kernel_rfl
          case hQd24 => exact fun _ _ _ h => h
          case hyd24 =>
            refine Or.inl ⟨by rfl, ?_⟩
            intro V hSV
            go_simp
            (try with_reducible rfl)
          try simp only [Act.put, List.setIfInBounds_toArray, List.set_cons_zero, List.set_cons_succ]
          refine wpAnyH_ready (rs := [24]) (by kernel_rfl) (by simp) ?_
          refine AllReadyH.cons (o := ?od25) ?hod25 (fun K hK => ?kd25) ?md25
          case hod25 => (simp only [List.getElem?_toArray, List.getElem?_cons_succ, List.getElem?_cons_zero]; exact rfl)
          case kd25 =>
            go_simp
            refine (wWorks_any ok _).mono ?_
            rintro e w11 ⟨rfl, hb11⟩
            (try dsimp only)
            refine hK.out _ _ ?_ (fun hHeld => ?_)
            · exact Below.trans (show Below W10.heap.size W10 _ from hHeld) (hb11.mono (Below.size (show Below W10.heap.size W10 _ from hHeld)))
            clear hK K
            try simp only [Act.put, List.setIfInBounds_toArray, List.set_cons_zero, List.set_cons_succ]
            refine wpAnyH_take (i := 25) (oi := ?oid26) (v := ?vd26) ?hod26 (by kernel_rfl) ?hfd26 ?hrd26 ?hQd26 ?hyd26 hHeld ?restd26
            case hod26 => (simp only [List.getElem?_toArray, List.getElem?_cons_succ, List.getElem?_cons_zero]; exact rfl)
            case hfd26 => kernel_rfl
            case hrd26 => kernel_rfl
            case hQd26 => exact fun _ _ _ h => h
            case hyd26 =>
              refine Or.inl ⟨by rfl, ?_⟩
              intro V hSV
              go_simp
              (try with_reducible rfl)
            try simp only [Act.put, List.setIfInBounds_toArray, List.set_cons_zero, List.set_cons_succ]
            refine wpAnyH_take (i := 26) (oi := ?oid27) (v := ?vd27) ?hod27 (by kernel_rfl) ?hfd27 ?hrd27 ?hQd27 ?hyd27 hHeld ?restd27
            case hod27 => (simp only [List.getElem?_toArray, List.getElem?_cons_succ, List.getElem?_cons_zero]; exact rfl)
            case hfd27 => kernel_rfl
            case hrd27 => kernel_rfl
            case hQd27 => exact fun _ _ _ h => h
            case hyd27 =>
              refine Or.inl ⟨by rfl, ?_⟩
              intro V hSV
              go_simp
              (try with_reducible rfl)
            try simp only [Act.put, List.setIfInBounds_toArray, List.set_cons_zero, List.set_cons_succ]
            refine wpAnyH_done (by kernel_rfl) ?_ _
            have hvv : Below W10.heap.size W10 _ := hHeld
            clear hHeld
            repeat (first | go_skip | go_guarded | go_step)
            go_ret
            exact ⟨rfl, hhw ▸ HB.out.trans ((HVX.out.trans (hvv.mono HVX.out.size)).mono HB.out.size)⟩
          exact AllReadyH.nil
        · have hmz : ((m.toNat : Int) == 0) = false := by rw [beq_eq_false_iff_ne]; omega
          repeat (first | go_skip | go_guarded | go_step)
          refine (ok.putRule none 0 0 [] s5 x5 p5 A8 n8 d8 l8 A9 n9 d9 R9 L9 Z Rd.nil (by omega) (by omega) HXA.out HXB.out hd8 hd9 (by omega) (by omega) (fun x hx => Nat.le_trans (HS9.out x hx) (by omega))).mono ?_
          rintro e W10 ⟨A10, m10, c10, z10, bs10, rfl, ho10, hb10, hzz⟩
          rcases hzz with ⟨_, rfl, rfl⟩ | ⟨h, _, _⟩
          case inr => rw [HM5.out] at h; cases h
          rw [List.nil_append, HE5.out] at ho10
          have hl10 := Ow.len ho10
          obtain rfl : m10 = y5 := by rw [← hl10, ← HE5.out]; exact HLE5.out.symm
          have HO10 := Lib.hid ho10
          have HVX := Lib.hid (HVZ.out.trans (hb10.mono HVZ.out.size))
          have HRX := Lib.hid ((HRZ.out.below hb10).more hb10.size)
          have HPX := Lib.hid (rdPre HRX.out hy5m)
          have hk9 : decide (m10 ≤ c7) = true := by simp; omega
          have hk8 : decide ((m10 : Int) ≤ (m' : Int)) = true := by simp; omega
          clear i0 i1 i2 i3 i4 i5 ho10 hb10 hl10 HE5 HLE5
          dsimp only
          go_upto_region 20 with (fail)
          refine wp_region_held_drew (S := fun V => Below W10.heap.size W10 V) (by kernel_rfl) ?_ (fun hHeld => ?_)
          · exact (Below.refl W10.heap.size W10).drew
          refine wpAnyH_take (i := 0) (oi := ?oid28) (v := ?vd28) ?hod28 (by kernel_rfl) ?hfd28 ?hrd28 ?hQd28 ?hyd28 hHeld ?restd28
          case hod28 => (simp only [List.getElem?_toArray, List.getElem?_cons_succ, List.getElem?_cons_zero]; exact rfl)
          case hfd28 => kernel_rfl
          case hrd28 => kernel_rfl
          case hQd28 => exact fun _ _ _ h => h
          case hyd28 =>
            refine Or.inl ⟨by rfl, ?_⟩
            intro V hSV
            go_simp
            (try with_reducible rfl)
          try simp only [Act.put, List.setIfInBounds_toArray, List.set_cons_zero, List.set_cons_succ]
          refine wpAnyH_take (i := 1) (oi := ?oid29) (v := ?vd29) ?hod29 (by kernel_rfl) ?hfd29 ?hrd29 ?hQd29 ?hyd29 hHeld ?restd29
          case hod29 => (simp only [List.getElem?_toArray, List.getElem?_cons_succ, List.getElem?_cons_zero]; exact rfl)
          case hfd29 => kernel_rfl
          case hrd29 => kernel_rfl
          case hQd29 => exact fun _ _ _ h => h
          case hyd29 =>
            refine Or.inl ⟨by rfl, ?_⟩
            intro V hSV
            go_simp
            (try with_reducible rfl)
          try simp only [Act.put, List.setIfInBounds_toArray, List.set_cons_zero, List.set_cons_succ]
          refine wpAnyH_take (i := 2) (oi := ?oid30) (v := ?vd30) ?hod30 (by kernel_rfl) ?hfd30 ?hrd30 ?hQd30 ?hyd30 hHeld ?restd30
          case hod30 => (simp only [List.getElem?_toArray, List.getElem?_cons_succ, List.getElem?_cons_zero]; exact rfl)
          case hfd30 => kernel_rfl
          case hrd30 => kernel_rfl
          case hQd30 => exact fun _ _ _ h => h
          case hyd30 =>
            refine Or.inl ⟨by rfl, ?_⟩
            intro V hSV
            go_simp
            (try with_reducible rfl)
          try simp only [Act.put, List.setIfInBounds_toArray, List.set_cons_zero, List.set_cons_succ]
          refine wpAnyH_take (i := 3) (oi := ?oid31) (v := ?vd31) ?hod31 (by kernel_rfl) ?hfd31 ?hrd31 ?hQd31 ?hyd31 hHeld ?restd31
          case hod31 => (simp only [List.getElem?_toArray, List.getElem?_cons_succ, List.getElem?_cons_zero]; exact rfl)
          case hfd31 => kernel_rfl
          case hrd31 => kernel_rfl
          case hQd31 => exact fun _ _ _ h => h
          case hyd31 =>
            refine Or.inl ⟨by rfl, ?_⟩
            intro V hSV
            go_simp
            (try with_reducible rfl)
          try simp only [Act.put, List.setIfInBounds_toArray, List.set_cons_zero, List.set_cons_succ]
          refine wpAnyH_take (i := 4) (oi := ?oid32) (v := ?vd32) ?hod32 (by kernel_rfl) ?hfd32 ?hrd32 ?hQd32 ?hyd32 hHeld ?restd32
          case hod32 => (simp only [List.getElem?_toArray, List.getElem?_cons_succ, List.getElem?_cons_zero]; exact rfl)
          case hfd32 => kernel_rfl
          case hrd32 => kernel_rfl
          case hQd32 => exact fun _ _ _ h => h
          case hyd32 =>
            refine Or.inl ⟨by rfl, ?_⟩
            intro V hSV
            go_simp
            (try with_reducible rfl)
          try simp only [Act.put, List.setIfInBounds_toArray, List.set_cons_zero, List.set_cons_succ]
          refine wpAnyH_take (i := 5) (oi := ?oid33) (v := ?vd33) ?hod33 (by kernel_rfl) ?hfd33 ?hrd33 ?hQd33 ?hyd33 hHeld ?restd33
          case hod33 => (simp only [List.getElem?_toArray, List.getElem?_cons_succ, List.getElem?_cons_zero]; exact rfl)
          case hfd33 => kernel_rfl
          case hrd33 => kernel_rfl
          case hQd33 => exact fun _ _ _ h => h
          case hyd33 =>
            refine Or.inl ⟨by rfl, ?_⟩
            intro V hSV
            go_simp
            (try with_reducible rfl)
          try simp only [Act.put, List.setIfInBounds_toArray, List.set_cons_zero, List.set_cons_succ]
          refine wpAnyH_take (i := 6) (oi := ?oid34) (v := ?vd34) ?hod34 (by kernel_rfl) ?hfd34 ?hrd34 ?hQd34 ?hyd34 hHeld ?restd34
          case hod34 => (simp only [List.getElem?_toArray, List.getElem?_cons_succ, List.getElem?_cons_zero]; exact rfl)
          case hfd34 => kernel_rfl
          case hrd34 => kernel_rfl
          case hQd34 => exact fun _ _ _ h => h
          case hyd34 =>
            refine Or.inl ⟨by rfl, ?_⟩
            intro V hSV
            go_simp
            (try with_reducible rfl)
          try simp only [Act.put, List.setIfInBounds_toArray, List.set_cons_zero, List.set_cons_succ]
          refine wpAnyH_take (i := 7) (oi := ?oid35) (v := ?vd35) ?hod35 (by kernel_rfl) ?hfd35 ?hrd35 ?hQd35 ?hyd35 hHeld ?restd35
          case hod35 => (simp only [List.getElem?_toArray, List.getElem?_cons_succ, List.getElem?_cons_zero]; exact rfl)
          case hfd35 => kernel_rfl
          case hrd35 => kernel_rfl
          case hQd35 => exact fun _ _ _ h => h
          case hyd35 =>
            refine Or.inl ⟨by rfl, ?_⟩
            intro V hSV
            go_simp
            (try with_reducible rfl)
          try simp only [Act.put, List.setIfInBounds_toArray, List.set_cons_zero, List.set_cons_succ]
          refine wpAnyH_take (i := 8) (oi := ?oid36) (v := ?vd36) ?hod36 (by kernel_rfl) ?hfd36 ?hrd36 ?hQd36 ?hyd36 hHeld ?restd36
          case hod36 => (simp only [List.getElem?_toArray, List.getElem?_cons_succ, List.getElem?_cons_zero]; exact rfl)
          case hfd36 => kernel_rfl
          case hrd36 => kernel_rfl
          case hQd36 => exact fun _ _ _ h => h
          case hyd36 =>
            refine Or.inl ⟨by rfl, ?_⟩
            intro V hSV
            go_simp
            (try with_reducible rfl)
          try simp only [Act.put, List.setIfInBounds_toArray, List.set_cons_zero, List.set_cons_succ]
          refine wpAnyH_take (i := 9) (oi := ?oid37) (v := ?vd37) ?hod37 (by kernel_rfl) ?hfd37 ?hrd37 ?hQd37 ?hyd37 hHeld ?restd37
          case hod37 => (simp only [List.getElem?_toArray, List.getElem?_cons_succ, List.getElem?_cons_zero]; exact rfl)
          case hfd37 => kernel_rfl
          case hrd37 => kernel_rfl
          case hQd37 => exact fun _ _ _ h => h
          case hyd37 =>
            refine Or.inl ⟨by rfl, ?_⟩
            intro V hSV
            go_simp
            (try with_reducible rfl)
          try simp only [Act.put, List.setIfInBounds_toArray, List.set_cons_zero, List.set_cons_succ]
          refine wpAnyH_take (i := 10) (oi := ?oid38) (v := ?vd38) ?hod38 (by kernel_rfl) ?hfd38 ?hrd38 ?hQd38 ?hyd38 hHeld ?restd38
          case hod38 => (simp only [List.getElem?_toArray, List.getElem?_cons_succ, List.getElem?_cons_zero]; exact rfl)
          case hfd38 => kernel_rfl
          case hrd38 => kernel_rfl
          case hQd38 => exact fun _ _ _ h => h
          case hyd38 =>
            refine Or.inl ⟨by rfl, ?_⟩
            intro V hSV
            go_simp
            (try with_reducible rfl)
          try simp only [Act.put, List.setIfInBounds_toArray, List.set_cons_zero, List.set_cons_succ]
          refine wpAnyH_take (i := 11) (oi := ?oid39) (v := ?vd39) ?hod39 (by kernel_rfl) ?hfd39 ?hrd39 ?hQd39 ?hyd39 hHeld ?restd39
          case hod39 => (simp only [List.getElem?_toArray, List.getElem?_cons_succ, List.getElem?_cons_zero]; exact rfl)
          case hfd39 => kernel_rfl
          case hrd39 => kernel_rfl
          case hQd39 => exact fun _ _ _ h => h
          case hyd39 =>
            refine Or.inl ⟨by rfl, ?_⟩
            intro V hSV
            go_simp
            (try with_reducible rfl)
          try simp only [Act.put, List.setIfInBounds_toArray, List.set_cons_zero, List.set_cons_succ]
          refine wpAnyH_take (i := 12) (oi := ?oid40) (v := ?vd40) ?hod40 (by kernel_rfl) ?hfd40 ?hrd40 ?hQd40 ?hyd40 hHeld ?restd40
          case hod40 => (simp only [List.getElem?_toArray, List.getElem?_cons_succ, List.getElem?_cons_zero]; exact rfl)
          case hfd40 => kernel_rfl
          case hrd40 => kernel_rfl
          case hQd40 => exact fun _ _ _ h => h
          case hyd40 =>
            refine Or.inl ⟨by rfl, ?_⟩
            intro V hSV
            go_simp
            (try with_reducible rfl)
          try simp only [Act.put, List.setIfInBounds_toArray, List.set_cons_zero, List.set_cons_succ]
          refine wpAnyH_take (i := 13) (oi := ?oid41) (v := ?vd41) ?hod41 (by kernel_rfl) ?hfd41 ?hrd41 ?hQd41 ?hyd41 hHeld ?restd41
          case hod41 => (simp only [List.getElem?_toArray, List.getElem?_cons_succ, List.getElem?_cons_zero]; exact rfl)
          case hfd41 => kernel_rfl
          case hrd41 => kernel_rfl
          case hQd41 => exact fun _ _ _ h => h
          case hyd41 =>
            refine Or.inl ⟨by rfl, ?_⟩
            intro V hSV
            go_simp
            (try with_reducible rfl)
          try simp only [Act.put, List.setIfInBounds_toArray, List.set_cons_zero, List.set_cons_succ]
          refine wpAnyH_take (i := 14) (oi := ?oid42) (v := ?vd42) ?hod42 (by kernel_rfl) ?hfd42 ?hrd42 ?hQd42 ?hyd42 hHeld ?restd42
          case hod42 => (simp only [List.getElem?_toArray, List.getElem?_cons_succ, List.getElem?_cons_zero]; exact rfl)
          case hfd42 => kernel_rfl
          case hrd42 => kernel_rfl
          case hQd42 => exact fun _ _ _ h => h
          case hyd42 =>
            refine Or.inl ⟨by rfl, ?_⟩
            intro V hSV
            go_simp
            (try with_reducible rfl)
          try simp only [Act.put, List.setIfInBounds_toArray, List.set_cons_zero, List.set_cons_succ]
          refine wpAnyH_take (i := 15) (oi := ?oid43) (v := ?vd43) ?hod43 (by kernel_rfl) ?hfd43 ?hrd43 ?hQd43 ?hyd43 hHeld ?restd43
          case hod43 => (simp only [List.getElem?_toArray, List.getElem?_cons_succ, List.getElem?_cons_zero]; exact rfl)
          case hfd43 => kernel_rfl
          case hrd43 => kernel_rfl
          case hQd43 => exact fun _ _ _ h => h
          case hyd43 =>
            refine Or.inl ⟨by rfl, ?_⟩
            intro V hSV
            go_simp
            (try with_reducible rfl)
          try simp only [Act.put, List.setIfInBounds_toArray, List.set_cons_zero, List.set_cons_succ]
          refine wpAnyH_take (i := 16) (oi := ?oid44) (v := ?vd44) ?hod44 (by kernel_rfl) ?hfd44 ?hrd44 ?hQd44 ?hyd44 hHeld ?restd44
          case hod44 => (simp only [List.getElem?_toArray, List.getElem?_cons_succ, List.getElem?_cons_zero]; exact rfl)
          case hfd44 => kernel_rfl
          case hrd44 => kernel_rfl
          case hQd44 => exact fun _ _ _ h => h
          case hyd44 =>
            refine Or.inl ⟨by rfl, ?_⟩
            intro V hSV
            have q := run_conv_str (P := Try.prog) V 22 9 5 Try.underlying22 Try.underlying5 Try.underlying9 _ _ m10 c10 (bs2.take m10) (Rd.below (Ow.rd HO10.out) hSV)
            go_simp
            (try with_reducible rfl)
          try simp only [Act.put, List.setIfInBounds_toArray, List.set_cons_zero, List.set_cons_succ]
          refine wpAnyH_take (i := 17) (oi := ?oid45) (v := ?vd45) ?hod45 (by kernel_rfl) ?hfd45 ?hrd45 ?hQd45 ?hyd45 hHeld ?restd45
          case hod45 => (simp only [List.getElem?_toArray, List.getElem?_cons_succ, List.getElem?_cons_zero]; exact rfl)
          case hfd45 => kernel_rfl
          case hrd45 => kernel_rfl
          case hQd45 => exact fun _ _ _ h => h
          case hyd45 =>
            refine Or.inl ⟨by rfl, ?_⟩
            intro V hSV
            go_simp
            (try with_reducible rfl)
          try simp only [Act.put, List.setIfInBounds_toArray, List.set_cons_zero, List.set_cons_succ]
          refine wpAnyH_take (i := 18) (oi := ?oid46) (v := ?vd46) ?hod46 (by kernel_rfl) ?hfd46 ?hrd46 ?hQd46 ?hyd46 hHeld ?restd46
          case hod46 => (simp only [List.getElem?_toArray, List.getElem?_cons_succ, List.getElem?_cons_zero]; exact rfl)
          case hfd46 => kernel_rfl
          case hrd46 => kernel_rfl
          case hQd46 => exact fun _ _ _ h => h
          case hyd46 =>
            refine Or.inl ⟨by rfl, ?_⟩
            intro V hSV
            go_simp
            (try with_reducible rfl)
          try simp only [Act.put, List.setIfInBounds_toArray, List.set_cons_zero, List.set_cons_succ]
          refine wpAnyH_take (i := 19) (oi := ?oid47) (v := .slice (some ⟨g7, 0, none⟩) m10 c7) ?hod47 (by kernel_rfl) ?hfd47 ?hrd47 ?hQd47 ?hyd47 hHeld ?restd47
          case hod47 => (simp only [List.getElem?_toArray, List.getElem?_cons_succ, List.getElem?_cons_zero]; exact rfl)
          case hfd47 => kernel_rfl
          case hrd47 => kernel_rfl
          case hQd47 => exact fun _ _ _ h => h
          case hyd47 =>
            refine Or.inl ⟨by rfl, ?_⟩
            intro V hSV
            go_simp
            (intro h9; omega)
          try simp only [Act.put, List.setIfInBounds_toArray, List.set_cons_zero, List.set_cons_succ]
          refine wpAnyH_take (i := 20) (oi := ?oid48) (v := ?vd48) ?hod48 (by kernel_rfl) ?hfd48 ?hrd48 ?hQd48 ?hyd48 hHeld ?restd48
          case hod48 => (simp only [List.getElem?_toArray, List.getElem?_cons_succ, List.getElem?_cons_zero]; exact rfl)
          case hfd48 => kernel_rfl
          case hrd48 => kernel_rfl
          case hQd48 => exact fun _ _ _ h => h
          case hyd48 =>
            refine Or.inl ⟨by rfl, ?_⟩
            intro V hSV
            have q := run_conv_str (P := Try.prog) V 22 9 5 Try.underlying22 Try.underlying5 Try.underlying9 _ _ m10 c7 (bs2.take m10) (HPX.out.below hSV)
            go_simp
            (try with_reducible rfl)
          try simp only [Act.put, List.setIfInBounds_toArray, List.set_cons_zero, List.set_cons_succ]
          refine wpAnyH_take (i := 21) (oi := ?oid49) (v := .bool true) ?hod49 (by kernel_rfl) ?hfd49 ?hrd49 ?hQd49 ?hyd49 hHeld ?restd49
          case hod49 => (simp only [List.getElem?_toArray, List.getElem?_cons_succ, List.getElem?_cons_zero]; exact rfl)
          case hfd49 => kernel_rfl
          case hrd49 => kernel_rfl
          case hQd49 => exact fun _ _ _ h => h
          case hyd49 =>
            refine Or.inl ⟨by rfl, ?_⟩
            intro V hSV
            go_simp
            (try simp)
          try simp only [Act.put, List.setIfInBounds_toArray, List.set_cons_zero, List.set_cons_succ]
          refine wpAnyH_take (i := 22) (oi := ?oid50) (v := ?vd50) ?hod50 (by kernel_rfl) ?hfd50 ?hrd50 ?hQd50 ?hyd50 hHeld ?restd50
          case hod50 => (simp only [List.getElem?_toArray, List.getElem?_cons_succ, List.getElem?_cons_zero]; exact rfl)
          case hfd50 => kernel_rfl
          case hrd50 => kernel_rfl
          case hQd50 => exact fun _ _ _ h => h
          case hyd50 =>
            refine Or.inl ⟨by rfl, ?_⟩
            intro V hSV
            go_simp
            (try with_reducible rfl)
          try simp only [Act.put, List.setIfInBounds_toArray, List.set_cons_zero, List.set_cons_succ]
          refine wpAnyH_take (i := 23) (oi := ?oid51) (v := ?vd51) ?hod51 (by kernel_rfl) ?hfd51 ?hrd51 ?hQd51 ?hyd51 hHeld ?restd51
          case hod51 => (simp only [List.getElem?_toArray, List.getElem?_cons_succ, List.getElem?_cons_zero]; exact rfl)
          case hfd51 => kernel_rfl
          case hrd51 => kernel_rfl
          case hQd51 => exact fun _ _ _ h => h
          case hyd51 =>
            refine Or.inl ⟨by rfl, ?_⟩
            intro V hSV
            go_simp
            (try with_reducible rfl)
          try simp only [Act.put, List.setIfInBounds_toArray, List.set_cons_zero, List.set_cons_succ]
          refine wpAnyH_ready (rs := [24]) (by kernel_rfl) (by simp) ?_
          refine AllReadyH.cons (o := ?od52) ?hod52 (fun K hK => ?kd52) ?md52
          case hod52 => (simp only [List.getElem?_toArray, List.getElem?_cons_succ, List.getElem?_cons_zero]; exact rfl)
          case kd52 =>
            go_simp
            refine (wWorks_any ok _).mono ?_
            rintro e w11 ⟨rfl, hb11⟩
            (try dsimp only)
            refine hK.out _ _ ?_ (fun hHeld => ?_)
            · exact Below.trans (show Below W10.heap.size W10 _ from hHeld) (hb11.mono (Below.size (show Below W10.heap.size W10 _ from hHeld)))
            clear hK K
            try simp only [Act.put, List.setIfInBounds_toArray, List.set_cons_zero, List.set_cons_succ]
            refine wpAnyH_take (i := 25) (oi := ?oid53) (v := ?vd53) ?hod53 (by kernel_rfl) ?hfd53 ?hrd53 ?hQd53 ?hyd53 hHeld ?restd53
            case hod53 => (simp only [List.getElem?_toArray, List.getElem?_cons_succ, List.getElem?_cons_zero]; exact rfl)
            case hfd53 => kernel_rfl
            case hrd53 => kernel_rfl
            case hQd53 => exact fun _ _ _ h => h
            case hyd53 =>
              refine Or.inl ⟨by rfl, ?_⟩
              intro V hSV
              go_simp
              (try with_reducible rfl)
            try simp only [Act.put, List.setIfInBounds_toArray, List.set_cons_zero, List.set_cons_succ]
            refine wpAnyH_take (i := 26) (oi := ?oid54) (v := ?vd54) ?hod54 (by kernel_rfl) ?hfd54 ?hrd54 ?hQd54 ?hyd54 hHeld ?restd54
            case hod54 => (simp only [List.getElem?_toArray, List.getElem?_cons_succ, List.getElem?_cons_zero]; exact rfl)
            case hfd54 => kernel_rfl
            case hrd54 => kernel_rfl
            case hQd54 => exact fun _ _ _ h => h
            case hyd54 =>
              refine Or.inl ⟨by rfl, ?_⟩
              intro V hSV
              go_simp
              (try with_reducible rfl)
            try simp only [Act.put, List.setIfInBounds_toArray, List.set_cons_zero, List.set_cons_succ]
            refine wpAnyH_done (by kernel_rfl) ?_ _
            have hvv : Below W10.heap.size W10 _ := hHeld
            clear hHeld
            repeat (first | go_skip | go_guarded | go_step)
            go_ret
            exact ⟨rfl, hhw ▸ HB.out.trans ((HVX.out.trans (hvv.mono HVX.out.size)).mono HB.out.size)⟩
          exact AllReadyH.nil
      · have hzz : ((z5 : Int) != 0) = true := by simp; omega
        obtain ⟨_, rfl, rfl⟩ := takeAns_zero rRule zR bs2 HA9.out.symm hz
        have hm0 : ((m.toNat : Int) == 0) = false := by
          rw [beq_eq_false_iff_ne]
          intro h0
          have hm : m = 0 := by
            apply UInt8.toNat_inj.1
            show m.toNat = 0
            omega
          have hA := HA9.out
          rw [HBS2.out, set_xor0 bs k b7 m HBK.out hm, HBS.out] at hA
          have h5 := takeAns_put ruleC zR ((s0, x0, (p, l)), L3) HMAY.out [] []
          rw [List.nil_append, List.append_nil] at h5
          rw [show ((([] : List UInt8).length : Nat) : Int) = 0 from rfl] at h5
          rw [h5] at hA
          simp only [Prod.mk.injEq] at hA
          omega
        repeat (first | go_skip | go_guarded | go_step)
        refine (wWorks_any ok _).mono ?_
        rintro e w2 ⟨rfl, hb2⟩
        dsimp only
        repeat (first | go_skip | go_guarded | go_step)
        go_ret
        exact ⟨rfl, hhw ▸ HB.out.trans ((HVZ.out.trans (hb2.mono HVZ.out.size)).mono HB.out.size)⟩
theorem u16_bdW {a : Int} (w : (Lit.int .u16 a).wf = true) : 0 ≤ a ∧ a < 65536 := by
  have h1 : IntKind.u16.min = 0 := rfl
  have h2 : IntKind.u16.max = 65535 := rfl
  simp only [Lit.wf, Bool.and_eq_true, decide_eq_true_eq] at w
  omega
theorem u8_bdW {a : Int} (w : (Lit.int .u8 a).wf = true) : 0 ≤ a ∧ a < 256 := by
  have h1 : IntKind.u8.min = 0 := rfl
  have h2 : IntKind.u8.max = 255 := rfl
  simp only [Lit.wf, Bool.and_eq_true, decide_eq_true_eq] at w
  omega

open Go.ChangeShapes Go.WideShapes Go.ChangeAt

set_option maxRecDepth 100000 in
theorem lifted (ok : WireOk) (os : Os) (started : os.Started) (H : Type) (enc : TypeId × Value → H) :
    ReturnsInHanded {} Try.checked os 7 .any (Rows.wireTurnedSpec.pre6 enc Try.prog Try.f7 Rows.wireTurnedRow.domain false) (Rows.wireTurnedSpec.post enc Try.prog Try.f7 false true false false) := by
  refine returnsInHanded_of_change_sized (C := Try.checked) ownK started (by kernel_rfl) Try.func7
    (ChangeSpec.witness6 (enc := enc) (C := Try.checked) false ⟨#[], #[.agg #[.bool false, .bool false, .int .u32 0, .int .u32 0, .slice none 0 0, .slice none 0 0], .int .u16 0, .int .u8 0], []⟩ 8 (by kernel_rfl) (by kernel_rfl) (by kernel_rfl) (by kernel_rfl)) ?_
  intro W base args ds gs before hval0 hW hcnd hsz0 _
  have hsz : (DataW.weightsEach Try.prog (Try.f7.params.toList ++ Rows.wireTurnedSpec.plain.varTypes Try.prog) (ds ++ gs)).all (· ≤ reachBytes) = true := hsz0
  have hval : ∀ (j : Nat) t v, Try.f7.params[j]? = some t → args[j]? = some v → Value.okWide Try.prog W .any base t v := hval0
  have hlt : ∀ x ∈ before, x.block < W.heap.size := fun x hx => by simpa using hW.lt x hx
  have hW' := hW
  obtain ⟨p, q, hA0, hV, rfl, hfz, hnd⟩ := hW
  have hA : DataW.TrodAll enc Try.prog W 0 (fun _ => true) true Try.f7.params.toList args.toList ds p := hA0
  rw [Try.params7] at hA hval hsz
  obtain ⟨v0, vs0, d0, ds0, p0, q0, hargs, rfl, rfl, h0, r0⟩ := trodAll_cons hA
  obtain ⟨v1, vs1, d1, ds1, p1, q1, rfl, rfl, rfl, h1, r1⟩ := trodAll_cons r0
  obtain ⟨v2, vs2, d2, ds2, p2, q2, rfl, rfl, rfl, h2, r2⟩ := trodAll_cons r1
  obtain ⟨rfl, rfl, rfl⟩ := trodAll_nil r2
  obtain rfl : args = #[v0, v1, v2] := by cases args; simp_all
  obtain ⟨rfl, rfl⟩ := trodVars_none hV
  obtain ⟨s0, x0, p, A1, n1, c1, l, A3, n3, c3, R3, L3, rfl, hk1, hm1, hk3, hm3, hr1, hr3⟩ := open_rule (hval 0 59 v0 rfl rfl) h0 (fun x hx => hlt x (by simp [hx]))
  obtain ⟨a1, rfl, rfl, rfl, w1⟩ := open_int Try.underlying68 (hval 1 68 v1 rfl rfl) h1
  have b1 := u16_bdW w1
  obtain ⟨t, rfl⟩ : ∃ m : Nat, a1 = (m : Int) := ⟨a1.toNat, by omega⟩
  obtain ⟨a2, rfl, rfl, rfl, w2⟩ := open_int Try.underlying5 (hval 2 5 v2 rfl rfl) h2
  have b2 := u8_bdW w2
  obtain ⟨m, rfl⟩ : ∃ m : UInt8, a2 = (m.toNat : Int) := ⟨UInt8.ofNat a2.toNat, by rw [UInt8.toNat_ofNat_of_lt' (by show a2.toNat < 256; omega)]; omega⟩
  have main : Calls Try.prog 7 #[.agg #[.bool s0, .bool x0.1, nv x0.2, nv p, .slice A1 n1 c1, .slice A3 n3 c3], .int .u16 (t : Int), .int .u8 (m.toNat : Int)] W fun e w' => e = .returned (.bool true) ∧ Below W.heap.size W w' := by
    exact walk ok s0 x0 p A1 n1 c1 l A3 n3 c3 R3 L3 t m W hr1 hk1 hr3 hk3 (by omega)
  refine main.mono fun e W' ⟨he, hg⟩ => ?_
  subst he
  exact ⟨_, rfl, post_law laidOut rfl (by kernel_rfl) hW' hg rfl Try.underlying4 rfl rfl rfl⟩

theorem proved_of (ok : WireOk) : Rows.WireTurnedSaid :=
  OpenClaim.holds_of_wide 7 Try.f7 rfl rfl rfl rfl rfl rfl rfl ⟨rfl, rfl, rfl, rfl, rfl⟩ rfl rfl rfl rfl rfl (by kernel_rfl) Try.func7 (by kernel_rfl)
    (of_decide_eq_true (by kernel_rfl)) (by unfold Func.isWrapper; first | (rw [if_pos (by decide +kernel)]; kernel_rfl) | (rw [if_neg (by decide +kernel)]; exact ⟨rfl, rfl⟩))
    (fun os started H enc _ => lifted ok os started H enc)
#print axioms proved_of
end Go.Proofs.Ytcoafgnbmgndeaa.wireTurned
