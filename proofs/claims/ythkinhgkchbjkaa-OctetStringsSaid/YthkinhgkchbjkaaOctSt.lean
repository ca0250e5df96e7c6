/- OctetStrings: any byte string is put as the document says; what stands at any place, up to any length, is taken as it says, in memory of its own; what is handed in stays. No condition. -/
import Derived.Test.YthkinhgkchbjkaaOctX
set_option linter.unusedVariables false
namespace Go.Proofs.Ythkinhgkchbjkaa.octetStrings
open Go Go.RowKit Go.ChangeShapes Go.WideShapes Go.ChangeAt

set_option maxRecDepth 100000 in
set_option maxHeartbeats 4000000 in
theorem walkVast (A : Option Addr) (n c : Nat) (bs : List UInt8) (A1 : Option Addr) (n1 c1 : Nat) (ss : List UInt8) (t most : Int) (w : World) (hv : 8192 < n ∨ 8192 < n1) :
    Calls Try.prog 4 #[.slice A n c, .slice A1 n1 c1, .int .i64 t, .int .i64 most] w fun e w' => e = .returned (.bool true) ∧ Below w.heap.size w w' := by
  by_cases hv0 : 8192 < n
  · go_enter Try.func4, Try.ntmps4
    go_wp2_with fail
    refine (vast_yes A n c _ hv0).mono ?_
    rintro e w1 ⟨rfl, rfl⟩
    go_wp2_with (go_at_call 9; refine (works_any _).mono ?_; rintro e w2 ⟨rfl, hb2⟩)
    go_ret
    exact ⟨rfl, hb2⟩
  · have hv1 : 8192 < n1 := by omega
    have hv0 : n ≤ 8192 := by omega
    go_enter Try.func4, Try.ntmps4
    go_wp2_with fail
    refine (vast_no A n c _ hv0).mono ?_
    rintro e w1 ⟨rfl, rfl⟩
    go_wp2_with fail
    refine (vast_yes A1 n1 c1 _ hv1).mono ?_
    rintro e w1 ⟨rfl, rfl⟩
    go_wp2_with (go_at_call 9; refine (works_any _).mono ?_; rintro e w2 ⟨rfl, hb2⟩)
    go_ret
    exact ⟨rfl, hb2⟩

set_option maxRecDepth 100000 in
set_option maxHeartbeats 4000000 in
theorem walk (A : Option Addr) (n c : Nat) (bs : List UInt8) (A1 : Option Addr) (n1 c1 : Nat) (ss : List UInt8) (t most : Int) (w : World) (hr : Rd w w.heap.size 1 A n (bs.map bv)) (hr1 : Rd w w.heap.size 1 A1 n1 (ss.map bv)) (hc : n ≤ c) (hm : c ≤ 140737488351232)
    (hw : -9223372036854775808 ≤ most ∧ most ≤ 9223372036854775807) (hv0 : n ≤ 8192) (hv1 : n1 ≤ 8192) :
    Calls Try.prog 4 #[.slice A n c, .slice A1 n1 c1, .int .i64 t, .int .i64 most] w fun e w' => e = .returned (.bool true) ∧ Below w.heap.size w w' := by
  obtain ⟨x1, x2, x3, hx⟩ : ∃ v x z, tbAns bs t most = (v, x, z) := ⟨_, _, _, rfl⟩
  have HX := Lib.hid hx
  have HW := Lib.hid hw
  have HLB := Lib.hid (show bs.length = n by simpa using hr.len1)
  clear hx hw
  go_enter Try.func4, Try.ntmps4
  go_wp2_with fail
  refine (vast_no A n c _ hv0).mono ?_
  rintro e w1 ⟨rfl, rfl⟩
  go_wp2_with fail
  refine (vast_no A1 n1 c1 _ hv1).mono ?_
  rintro e w1 ⟨rfl, rfl⟩
  go_wp2_with fail
  refine (roomy_any A n c bs _ hr hv0).mono ?_
  rintro e w1 ⟨rfl, hB1, hb1⟩
  have hro : Rd w1 w1.heap.size 1 (some ⟨w.heap.size, 0, none⟩) n (bs.map bv) := by
    have := hB1.rd n (by rw [roomB_len, HLB.out]; omega)
    have e : (roomB bs).take n = bs.map bv := by
      unfold roomB
      rw [List.take_append_of_le_length (by simp [HLB.out]), List.take_of_length_le (by simp [HLB.out])]
    rwa [e] at this
  go_wp2_with (at_builtin; refine app8 _ rfl _ _ rfl w1.heap.size _ _ 0 [] rfl (owLit0 w1 _ (Nat.le_refl _)) w.heap.size A1 n1 c1 ss rfl ((hr1.below hb1).alloc hb1.size _) (by omega) (by simp) ?_; intro A2 c2 w2 ho2 hb2 _; rw [Nat.zero_add, List.nil_append] at ho2; have hb12 := ((Below.refl w1.heap.size w1).alloc (Nat.le_refl _) (.cells #[] 5)).trans hb2; have hb02 := hb1.trans (hb12.mono hb1.size))
  refine (putBytes_any (some ⟨w.heap.size, 0, none⟩) n (n + 30) bs A2 n1 c2 ss _ ((hro.below hb12).more hb12.size) ho2.rd (by omega)).mono ?_
  rintro e w3 ⟨A3, m3, c3, rfl, ho3, hb3⟩
  have hb03 := hb02.trans (hb3.mono hb02.size)
  have hB3 := (hB1.later hb12).later hb3
  have hc3 := ho3.rd
  have ho23 : Ow w3 w1.heap.size A2 c2 n1 ss := ho2.below hb3 (Nat.le_refl _)
  go_wp2
  go_loopw [12] (fun q wr => ∃ (i : Nat) (xs : List Value), q = .int .i64 (i : Int) ∧ i ≤ n1 ∧ wr.ownsRow w1.heap.size 5 1 (.slice A2 n1 c2) n1 xs ∧ AllB xs ∧ w3.grownBy wr (Value.slice A2 n1 c2).ownBlock)
    (fun q _ => n1 - (intOf q).toNat)
  case atStart => exact ⟨0, _, rfl, by omega, ho23, AllB.bytes ss, World.grownBy.refl _ _⟩
  case round =>
    obtain ⟨i, xs, rfl, hi, hox, hall, hgr⟩ := hrel
    by_cases hlt : i < n1
    · obtain ⟨g, cap, hv, hgb, hglt⟩ := hox.form (by omega)
      simp only [Value.slice.injEq] at hv
      obtain ⟨rfl, _, rfl⟩ := hv
      have hxl : xs.length = n1 := by have := hox.1; omega
      have hxi : xs[i]? = some (xs[i]'(by omega)) := List.getElem?_eq_getElem (by omega)
      obtain ⟨b, hb⟩ := hall i _ hxi
      have hcell : wr.cell? ⟨g, i, none⟩ = some (.int .u8 (b.toNat : Int)) := by rw [hox.cellAt i (by omega), hxi, hb]
      have hfz := hox.frozenAt i
      have h8 := u8_lt b
      obtain ⟨b', hb'⟩ := xorB b 3 (by omega)
      have hst := hox.stored i (.int .u8 (bits .xor .u8 (b.toNat : Int) 3))
      have HS := Lib.hid hst
      have HB := Lib.hid hb'
      clear hst hb' hb hxi hox
      go_wp2
      go_roundw
      case rel => exact ⟨i + 1, _, by go_num, by omega, HS.out.1, hall.set i b' _ HB.out, onlySet hgr i _⟩
      case measure => simp [intOf]; omega
    · obtain rfl : i = n1 := by omega
      have hne : ∀ k, (Value.slice A2 i c2).ownBlock = some k → w1.heap.size ≤ k ∧ k < w2.heap.size := fun k hk => ⟨(World.ownsRow.lt hox k hk).1, (World.ownsRow.lt ho2 k hk).2⟩
      have hBr : Bk wr w.heap.size 5 (roomB bs) := (hgr.block _ hB3.lt (fun e => by have h1 := (hne _ e.symm).1; have h2 := hB1.lt; omega)).trans hB3
      have hb0r : Below w.heap.size w wr := hb03.grown hgr hb03.size (fun k hk => by have h1 := (hne k hk).1; have h2 := hb1.size; omega)
      have ho3r : Ow wr w2.heap.size A3 c3 m3 (bs ++ var i ++ ss) := World.ownsRow.kept ho3 hgr (by
        rcases hk : (Value.slice A3 m3 c3).ownBlock with _ | k
        · exact .inl rfl
        · refine .inr (fun e => ?_)
          have h1 := (World.ownsRow.lt ho3 k hk).1
          have h2 := (hne k e.symm).2
          omega)
      clear hox hgr hne ho23 ho3 hc3
      go_wp2_with fail
      refine (kept_any w.heap.size A n c _ bs _ hBr (hr.below hb0r) hv0).mono ?_
      rintro e w5 ⟨rfl, rfl⟩
      go_wp2_with fail
      refine (rPutBytes_any A n c bs A1 i c1 ss _ ((hr.below hb0r).more hb0r.size) ((hr1.below hb0r).more hb0r.size) (by omega)).mono ?_
      rintro e w4 ⟨A4, m4, c4, rfl, ho4, hb4⟩
      have hb04 := hb0r.trans (hb4.mono hb0r.size)
      go_wp2_with fail
      refine (same_any A3 m3 c3 _ A4 m4 c4 _ _ _ _ (ho3r.rd.below hb4) ho4.rd).mono ?_
      rintro e w5 ⟨rfl, rfl⟩
      have hB4 := hBr.later hb4
      clear ho3r hBr ho4
      have hro4 : Rd w4 w4.heap.size 1 (some ⟨w.heap.size, 0, none⟩) n (bs.map bv) := by
        have := hB4.rd n (by rw [roomB_len, HLB.out]; omega)
        have e : (roomB bs).take n = bs.map bv := by
          unfold roomB
          rw [List.take_append_of_le_length (by simp [HLB.out]), List.take_of_length_le (by simp [HLB.out])]
        rwa [e] at this
      go_wp2_with fail
      refine (takeBytes_any _ n (n + 30) t most bs _ hro4 (by omega) (by omega) (by omega) HW.out x1 x2 x3 HX.out).mono ?_
      rintro e w6 ⟨A6, c6, m6, rfl, ho6, hb6⟩
      have hb06 := hb04.trans (hb6.mono hb04.size)
      have hB6 := hB4.later hb6
      have hlt6 : w.heap.size < w4.heap.size := hB4.lt
      go_wp2
      go_loopw [16] (fun q wr => ∃ (j : Nat) (cs : List Value), q = .int .i64 (j : Int) ∧ j ≤ n ∧ Bk wr w.heap.size 5 cs ∧ cs.length = n + 30 ∧ AllB cs ∧ w6.grownBy wr (some w.heap.size))
        (fun q _ => n - (intOf q).toNat)
      case atStart => exact ⟨0, _, rfl, by omega, hB6, by rw [roomB_len, HLB.out], AllB.room bs, World.grownBy.refl _ _⟩
      case round =>
        obtain ⟨j, cs, rfl, hj, hBj, hlen, hall, hgr⟩ := hrel
        by_cases hlt : j < n
        · have hxi : cs[j]? = some (cs[j]'(by omega)) := List.getElem?_eq_getElem (by omega)
          obtain ⟨b, hb⟩ := hall j _ hxi
          have hcell : wr.cell? ⟨w.heap.size, j, none⟩ = some (.int .u8 (b.toNat : Int)) := by rw [hBj.cell, hxi, hb]
          have hfz := hBj.frozen j
          have h8 := u8_lt b
          obtain ⟨b', hb'⟩ := xorB b 9 (by omega)
          have HS := Lib.hid (hBj.set_ j (.int .u8 (bits .xor .u8 (b.toNat : Int) 9)))
          have HB := Lib.hid hb'
          have HLN := Lib.hid hlen
          clear hb' hb hxi hlen
          go_wp2
          go_roundw
          case rel => exact ⟨j + 1, _, by go_num, by omega, HS.out, by simpa using HLN.out, hall.set j b' _ HB.out, onlySet hgr j _⟩
          case measure => simp [intOf]; omega
        · obtain rfl : j = n := by omega
          have hb0r' : Below w.heap.size w wr := hb06.grown hgr hb06.size (fun k hk => by cases hk; exact Nat.le_refl _)
          have ho6r : Ow wr w4.heap.size A6 c6 m6 x1 := World.ownsRow.kept ho6 hgr (by
            rcases hk : (Value.slice A6 m6 c6).ownBlock with _ | k
            · exact .inl rfl
            · refine .inr (fun e => ?_)
              have h1 := (World.ownsRow.lt ho6 k hk).1
              cases e
              omega)
          clear hBj hgr hlen hall ho6
          go_wp2_with fail
          refine (rTakeBytes_any A j c t most bs _ ((hr.below hb0r').more hb0r'.size) hc (by omega) (by omega) HW.out x1 x2 x3 HX.out).mono ?_
          rintro e w7 ⟨A7, c7, m7, rfl, ho7, hb7⟩
          have hb07 := hb0r'.trans (hb7.mono hb0r'.size)
          go_wp2_with fail
          refine (same_any A6 m6 c6 _ A7 m7 c7 _ _ _ _ (ho6r.rd.below hb7) ho7.rd).mono ?_
          rintro e w8 ⟨rfl, rfl⟩
          go_wp2_with (go_at_call 9; refine (works_any _).mono ?_; rintro e w9 ⟨rfl, hb9⟩)
          go_ret
          exact ⟨rfl, hb07.trans (hb9.mono hb07.size)⟩

set_option maxRecDepth 100000 in
theorem lifted (os : Os) (started : os.Started) (H : Type) (enc : TypeId × Value → H) :
    ReturnsInHanded {} Try.checked os 4 .any (Rows.octetStringsSpec.pre6 enc Try.prog Try.f4 Rows.octetStringsRow.domain false) (Rows.octetStringsSpec.post enc Try.prog Try.f4 false true false false) := by
  refine returnsInHanded_of_change_sized (C := Try.checked) ownK started (by kernel_rfl) Try.func4
    (ChangeSpec.witness6 (enc := enc) (C := Try.checked) false ⟨#[], #[.slice none 0 0, .slice none 0 0, .int .i64 0, .int .i64 0], []⟩ 8 (by kernel_rfl) (by kernel_rfl) (by kernel_rfl) (by kernel_rfl)) ?_
  intro W base args ds gs before hval0 hW hcnd hsz0 _
  have hsz : (DataW.weightsEach Try.prog (Try.f4.params.toList ++ Rows.octetStringsSpec.plain.varTypes Try.prog) (ds ++ gs)).all (· ≤ reachBytes) = true := hsz0
  have hval : ∀ (j : Nat) t v, Try.f4.params[j]? = some t → args[j]? = some v → Value.okWide Try.prog W .any base t v := hval0
  have hlt : ∀ x ∈ before, x.block < W.heap.size := fun x hx => by simpa using hW.lt x hx
  have hW' := hW
  obtain ⟨p, q, hA0, hV, rfl, hfz, hnd⟩ := hW
  have hA : DataW.TrodAll enc Try.prog W 0 (fun _ => true) true Try.f4.params.toList args.toList ds p := hA0
  rw [Try.params4] at hA hval hsz
  obtain ⟨v0, vs0, d0, ds0, p0, q0, hargs, rfl, rfl, h0, r0⟩ := trodAll_cons hA
  obtain ⟨v1, vs1, d1, ds1, p1, q1, rfl, rfl, rfl, h1, r1⟩ := trodAll_cons r0
  obtain ⟨v2, vs2, d2, ds2, p2, q2, rfl, rfl, rfl, h2, r2⟩ := trodAll_cons r1
  obtain ⟨v3, vs3, d3, ds3, p3, q3, rfl, rfl, rfl, h3, r3⟩ := trodAll_cons r2
  obtain ⟨rfl, rfl, rfl⟩ := trodAll_nil r3
  obtain rfl : args = #[v0, v1, v2, v3] := by cases args; simp_all
  obtain ⟨rfl, rfl⟩ := trodVars_none hV
  obtain ⟨most, rfl, rfl, rfl, wm⟩ := open_int Try.underlying3 (hval 3 3 v3 rfl rfl) h3
  obtain ⟨t, rfl, rfl, rfl, wt⟩ := open_int Try.underlying3 (hval 2 3 v2 rfl rfl) h2
  obtain ⟨A1, n1, c1, ss, rfl, hc1, hm1, hr1⟩ := open_bytes (hval 1 22 v1 rfl rfl) h1 (fun x hx => hlt x (by simp [hx])) (fun elems spare e => by
    have := sized_slice hsz (j := 1) (t := 22) (e := 5) (elems := elems) (spare := spare) rfl (by rw [e]; rfl) Try.underlying22
    rw [bytes8] at this
    simp only [reachBytes] at this
    omega)
  obtain ⟨A, n, c, bs, rfl, hc, hm, hr⟩ := open_bytes (hval 0 22 v0 rfl rfl) h0 (fun x hx => hlt x (by simp [hx])) (fun elems spare e => by
    have := sized_slice hsz (j := 0) (t := 22) (e := 5) (elems := elems) (spare := spare) rfl (by rw [e]; rfl) Try.underlying22
    rw [bytes8] at this
    simp only [reachBytes] at this
    omega)
  have main : Calls Try.prog 4 #[.slice A n c, .slice A1 n1 c1, .int .i64 t, .int .i64 most] W fun e w' => e = .returned (.bool true) ∧ Below W.heap.size W w' := by
    by_cases hv : 8192 < n ∨ 8192 < n1
    · exact walkVast A n c bs A1 n1 c1 ss t most W hv
    · exact walk A n c bs A1 n1 c1 ss t most W hr hr1 hc hm (i64_bd wm) (by omega) (by omega)
  refine main.mono fun e W' ⟨he, hg⟩ => ?_
  subst he
  exact ⟨_, rfl, post_law laidOut rfl (by kernel_rfl) hW' hg rfl Try.underlying4 rfl rfl rfl⟩

theorem proved : Rows.OctetStringsSaid :=
  OpenClaim.holds_of_wide 4 Try.f4 rfl rfl rfl rfl rfl rfl rfl ⟨rfl, rfl, rfl, rfl, rfl⟩ rfl rfl rfl rfl rfl (by kernel_rfl) Try.func4 (by kernel_rfl)
    (of_decide_eq_true (by kernel_rfl)) (by unfold Func.isWrapper; first | (rw [if_pos (by decide +kernel)]; kernel_rfl) | (rw [if_neg (by decide +kernel)]; exact ⟨rfl, rfl⟩))
    (fun os started H enc _ => lifted os started H enc)
#print axioms proved
end Go.Proofs.Ythkinhgkchbjkaa.octetStrings
