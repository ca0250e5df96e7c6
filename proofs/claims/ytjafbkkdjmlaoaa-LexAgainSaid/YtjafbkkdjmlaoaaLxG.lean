/- Layer 7 (lex): LexAgain: the words of a text's words are they; each stands where it says; wiped out, none is left. From LexOk. -/
import Derived.Test.YtjafbkkdjmlaoaaLxL
import Derived.ChangeMaps
import Derived.Lib.ConvBytes
set_option linter.unusedVariables false
set_option linter.unusedSimpArgs false
namespace Go.Proofs.Ytjafbkkdjmlaoaa.lexAgain
open Go Go.RowKit

/-- A row that a conversion made: block g is just the cells cs; the mark stands behind them. -/
def Bf (w : World) (g : Nat) (t : TypeId) (cs : List Value) : Prop := w.heap[g]? = some (.cells cs.toArray t (cs.length, cs.length + 1))
theorem Bf.cell {w : World} {g : Nat} {t : TypeId} {cs : List Value} (h : Bf w g t cs) (i : Nat) : w.cell? ⟨g, i, none⟩ = cs[i]? := by
  rw [cell_of_row w g i cs.toArray t _ h]
  simp
theorem Bf.lt {w : World} {g : Nat} {t : TypeId} {cs : List Value} (h : Bf w g t cs) : g < w.heap.size := (Array.getElem?_eq_some_iff.1 h).1
theorem Bf.frozen {w : World} {g : Nat} {t : TypeId} {cs : List Value} (h : Bf w g t cs) {i : Nat} (hi : i < cs.length) : w.frozen? ⟨g, i, none⟩ = false := by
  unfold Bf at h
  simp [World.frozen?, h]
  omega
theorem Bf.set_ {w : World} {g : Nat} {t : TypeId} {cs : List Value} (h : Bf w g t cs) (i : Nat) (u : Value) : Bf (w.setCell ⟨g, i, none⟩ u) g t (cs.set i u) := by
  unfold Bf at h ⊢
  simp [World.setCell, Array.getElem?_modify, h]
theorem Bf.rd {w : World} {g : Nat} {t : TypeId} {l : List UInt8} {Z : List Value} (h : Bf w g t (l.map bv ++ Z)) {n : Nat} (hn : l.length = n) : Rd w w.heap.size 1 (some ⟨g, 0, none⟩) n (l.map bv) :=
  ⟨by simp [hn], fun _ => ⟨g, 0, rfl, h.lt, fun j u hu => by
    have hj : j < (l.map bv).length := (List.getElem?_eq_some_iff.1 hu).1
    rw [Nat.zero_add, h.cell, List.getElem?_append_left hj]
    exact hu⟩⟩
theorem Bf.at_ {w : World} {g : Nat} {t : TypeId} {l : List UInt8} {Z : List Value} (h : Bf w g t (l.map bv ++ Z)) {j : Nat} (hj : j < l.length) : ∃ x : UInt8, w.cell? ⟨g, j, none⟩ = some (.int .u8 (x.toNat : Int)) := by
  refine ⟨l[j], ?_⟩
  rw [h.cell, List.getElem?_append_left (by simpa using hj), List.getElem?_map, List.getElem?_eq_getElem hj]
  rfl
theorem Bf.put {w : World} {g : Nat} {t : TypeId} {l : List UInt8} {Z : List Value} (h : Bf w g t (l.map bv ++ Z)) {j : Nat} (hj : j < l.length) : Bf (w.setCell ⟨g, j, none⟩ (.int .u8 32)) g t ((l.set j 32).map bv ++ Z) := by
  have h2 := h.set_ j (.int .u8 32)
  rw [List.set_append_left _ _ (by simpa using hj)] at h2
  rw [List.map_set]
  exact h2
theorem bytes_new (w : World) (e : TypeId) (s : ByteArray) : ∃ Z, Bf (Lib.bytesWorld w e s) w.heap.size e ((tb s).map bv ++ Z) := by
  refine ⟨List.replicate (grownCap w s.size 0 e - s.size) (Value.int .u8 0), ?_⟩
  unfold Bf
  rw [Lib.bytesWorld_at_new]
  have hc : Lib.bytesCells w e s = ((tb s).map bv ++ List.replicate (grownCap w s.size 0 e - s.size) (Value.int .u8 0)).toArray := by
    unfold Lib.bytesCells
    apply Array.ext'
    simp only [tb, Array.toList_append, Array.toList_map, Array.toList_replicate]
    rfl
  rw [hc]
  simp
theorem bytes_below (w : World) (e : TypeId) (s : ByteArray) : Below w.heap.size w (Lib.bytesWorld w e s) :=
  ⟨rfl, rfl, rfl, by rw [Lib.bytesWorld_size]; omega, fun j hj => Lib.bytesWorld_at_old w e s j hj⟩
/-- The bytes from p on made blank, k of them. -/
def wipeP (l : List UInt8) (p : Nat) : Nat → List UInt8
  | 0 => l
  | k + 1 => (wipeP l p k).set (p + k) 32
theorem wipeP_len (l : List UInt8) (p : Nat) : ∀ k, (wipeP l p k).length = l.length
  | 0 => rfl
  | k + 1 => by rw [wipeP, List.length_set, wipeP_len l p k]
theorem wipeP_eq (l : List UInt8) (p : Nat) : ∀ k, p + k ≤ l.length → wipeP l p k = l.take p ++ (List.replicate k 32 ++ l.drop (p + k))
  | 0, h => by simp [wipeP]
  | k + 1, h => by
    have h1 : (l.take p).length = p := by rw [List.length_take]; omega
    rw [wipeP, wipeP_eq l p k (by omega), List.set_append_right _ _ (by omega), h1, show p + k - p = k by omega, List.set_append_right _ _ (by simp), List.length_replicate, Nat.sub_self, List.drop_eq_getElem_cons (by omega : p + k < l.length), List.set_cons_zero, List.replicate_succ']
    simp [Nat.add_assoc]
theorem wipe_eq {l : List UInt8} {w : Wd} (h : w.2.2 + w.2.1.length ≤ l.length) : wipeP l w.2.2 w.2.1.length = wipe l w := wipeP_eq l _ _ h
theorem wipe_len {l : List UInt8} {w : Wd} (h : w.2.2 + w.2.1.length ≤ l.length) : (wipe l w).length = l.length := by
  rw [← wipe_eq h, wipeP_len]
theorem wipes_len {n : Nat} : ∀ (ws : List Wd) (l : List UInt8), l.length = n → (∀ x ∈ ws, x.2.2 + x.2.1.length ≤ n) → (ws.foldl wipe l).length = n
  | [], l, h, _ => h
  | w :: ws, l, h, hw => by
    have h1 := hw w (by simp)
    rw [List.foldl_cons]
    exact wipes_len ws _ ((wipe_len (by omega)).trans h) (fun x hx => hw x (by simp [hx]))
theorem wipes_next {ws : List Wd} {i : Nat} {x : Wd} (h : ws[i]? = some x) (l : List UInt8) : (ws.take (i + 1)).foldl wipe l = wipe ((ws.take i).foldl wipe l) x := by
  rw [List.take_add_one, h]
  simp
theorem wiped {l : List UInt8} {ws : List Wd} (hl : l.length ≤ 65536) (h : lexG 0 l = (ws, none)) : wordsL (ws.foldl wipe l) = ([], 0, 0) := by
  obtain ⟨r, hr, hrl, hrb⟩ := lexG_wipe [] l (by simp [h])
  simp only [List.nil_append, List.length_nil, h] at hr
  rw [hr]
  exact wordsL_ok (by omega) (lexG_end (blN_drop.2 hrb))
theorem again {l : List UInt8} {ws : List Wd} (h : lexG 0 l = (ws, none)) (hj : (joinL ws).length ≤ 65536) : ∃ vs, wordsL (joinL ws) = (vs, 0, 0) ∧ texts vs = texts ws := by
  have ha := lexG_alone 0 l
  rw [h] at ha
  obtain ⟨h1, h2⟩ := lexG_join ws 0 ha
  refine ⟨(lexG 0 (joinL ws)).1, wordsL_ok hj ?_, h2⟩
  rw [← h1]

set_option maxRecDepth 100000 in
set_option maxHeartbeats 1000000 in
theorem walk (ok : LexOk) (s : ByteArray) (w : World) : Calls Try.prog 4 #[sv s] w fun e w' => e = .returned (.bool true) ∧ Below w.heap.size w w' := by
  by_cases hbig : 4096 < s.size
  · have hd : decide ((4096 : Int) < (s.size : Int)) = true := by simp; omega
    have HB := Lib.hid (Below.refl w.heap.size w)
    go_enter Try.func4, Try.ntmps4
    repeat (first | go_skip | go_guarded | go_step)
    refine (lWorks_any ok w).mono ?_
    rintro e w9 ⟨rfl, hb9⟩
    have HB9 := Lib.hid (HB.out.trans (hb9.mono HB.out.size))
    clear hb9
    dsimp only
    repeat (first | go_skip | go_guarded | go_step)
    go_ret
    exact ⟨rfl, HB9.out⟩
  · have hd : decide ((4096 : Int) < (s.size : Int)) = false := by simp; omega
    have hlen := tb_len s
    go_enter Try.func4, Try.ntmps4
    repeat (first | go_skip | go_guarded | go_step)
    refine (ok.words s w (by omega)).mono ?_
    rintro e w1 ⟨A1, m1, c1, ws, y1, z1, rfl, ho1, hb1, ha1⟩
    have hP := wordsL_split (by omega) ha1
    have hs1 := wordsL_small (by omega) ha1
    have HAT := Lib.hid (wordsL_at (by omega) ha1)
    have HC := Lib.hid (OwV.cap ho1)
    obtain rfl : m1 = ws.length := (rdV_len (OwV.rd ho1)).symm
    have HO1 := Lib.hid (OwV.rd ho1)
    have HB1 := Lib.hid hb1
    clear ho1 hb1 ha1
    dsimp only
    rcases hP with ⟨rfl, rfl, hx⟩ | ⟨rfl, rfl, hy, vs, hx⟩
    rotate_left
    · clear hx
      rw [hlen] at hy
      have hyI : (y1 : Int) < (s.size : Int) := by omega
      repeat (first | go_skip | go_guarded | go_step)
      refine (lWorks_any ok w1).mono ?_
      rintro e w9 ⟨rfl, hb9⟩
      have HB9 := Lib.hid (HB1.out.trans (hb9.mono HB1.out.size))
      clear hb9
      dsimp only
      repeat (first | go_skip | go_guarded | go_step)
      go_ret
      exact ⟨rfl, HB9.out⟩
    · have HX := Lib.hid hx
      have HST := Lib.hid (show Stand (tb s) 0 ws by have h := lexG_stand0 (tb s); rw [hx] at h; exact h)
      clear hx
      rw [hlen] at hs1
      have HL := Lib.hid hlen
      clear hlen
      obtain ⟨C, hC⟩ : ∃ C, C = grownCap w1 s.size 0 5 := ⟨_, rfl⟩
      have hcv := Lib.run_convert_string_bytes (P := Try.prog) w1 9 34 5 s Try.underlying9 Try.underlying34 Try.underlying5
      rw [← hC] at hcv
      obtain ⟨Z, hk⟩ := bytes_new w1 5 s
      have hbu := bytes_below w1 5 s
      generalize Lib.bytesWorld w1 5 s = U at hcv hk hbu
      have HK := Lib.hid hk
      have HU := Lib.hid hbu
      clear hk hbu hC
      repeat (first | go_skip | go_guarded | go_step)
      clear hcv
      go_loopw [7, 8] (fun la i wr => ∃ (i' last : Nat), i' ≤ ws.length ∧ i = .int .i64 (i' : Int) ∧ la = .int .i64 (last : Int) ∧ last ≤ s.size ∧ Stand (tb s) last (ws.drop i') ∧ Bf wr w1.heap.size 5 (((ws.take i').foldl wipe (tb s)).map bv ++ Z) ∧ Below w1.heap.size w1 wr) (fun _ i _ => ws.length - (intOf i).toNat)
      case atStart => exact ⟨0, 0, by omega, rfl, rfl, by omega, HST.out, HK.out, HU.out⟩
      case round =>
        rename_i wr
        obtain ⟨i, last, hi, rfl, rfl, hla, hst, hB, hb⟩ := hrel
        have HBF := Lib.hid hB
        have HW := Lib.hid hb
        by_cases hlt : i < ws.length
        · have hci : (i : Int) < (ws.length : Int) := by omega
          obtain ⟨bb, o, ⟨k, t, p⟩, hA, hbb, hx, hc0, hc1, hc2⟩ := rdV_at (HO1.out.below hb) hlt
          obtain ⟨T, hT⟩ : ∃ T : ByteArray, T = ⟨t.toArray⟩ := ⟨_, rfl⟩
          have hTt : tb T = t := by rw [hT]
          have hTl : T.size = t.length := by rw [← hTt, tb_len]
          have hdr : ws.drop i = (k, t, p) :: ws.drop (i + 1) := by
            rw [List.drop_eq_getElem_cons hlt]
            congr 1
            exact Option.some.inj ((List.getElem?_eq_getElem hlt).symm.trans hx)
          rw [hdr] at hst
          obtain ⟨e1, e2, e3, e4, e5⟩ := hst
          dsimp only at e1 e2 e3 e4 e5
          rw [HL.out] at e3
          have hpt : s.extract p (p + T.size) = T := by
            have h1 := sv_part s p T.size
            rw [hTl, e4, ← hTl] at h1
            have h2 : sv (s.extract p (p + T.size)) = sv T := h1.trans (by rw [hT])
            exact Value.string.inj h2
          have hT0 : 0 < T.size := by
            rw [hTl]
            cases t with
            | nil => exact absurd rfl e1
            | cons c l => simp
          rw [← hTl] at e3 e5
          rw [show strV t = sv T by rw [hT]] at hc1
          have hwl : ((ws.take i).foldl wipe (tb s)).length = s.size := wipes_len _ _ HL.out (fun x hx => by rw [← HL.out]; exact HAT.out x (List.mem_of_mem_take hx))
          have HNX := Lib.hid (wipes_next hx (tb s))
          have hwp := wipe_eq (l := (ws.take i).foldl wipe (tb s)) (w := (k, t, p)) (by dsimp only; omega)
          dsimp only at hwp
          rw [← hTl] at hwp
          have HWP := Lib.hid hwp
          have HE5 := Lib.hid e5
          have HWL := Lib.hid hwl
          subst hA
          dsimp only at hc1 hc2 hbb
          have HC2 := Lib.hid hc2
          have r1 : ∀ q, (wr.drewN q).cell? ⟨bb, o + i * 3 + 1, none⟩ = some (sv T) := fun _ => hc1
          have r2 : ∀ q, (wr.drewN q).cell? ⟨bb, o + i * 3 + 2, none⟩ = some (.int .i64 (p : Int)) := fun _ => hc2
          have hpart : ∀ q, (Instr.slice 9 (sv s) (some (.int .i64 (p : Int))) (some (.int .i64 ((p : Int) + (T.size : Int)))) none).run Try.prog (wr.drewN q) = .ok (sv T) (wr.drewN q) := fun q => by
            rw [run_part s p (p + T.size) _ _ rfl (by omega) (by omega) (by omega), hpt]
          have k0 : ¬ ((T.size : Int) = 0) := by omega
          have k0b : ((T.size : Int) == 0) = false := beq_eq_false_iff_ne.mpr (by omega)
          have k0c : decide ((T.size : Int) = 0) = false := decide_eq_false (by omega)
          have k0d : decide (T.size = 0) = false := decide_eq_false (by omega)
          have k1 : ¬ ((p : Int) < (last : Int)) := by omega
          have k1b : decide ((p : Int) < (last : Int)) = false := by simp; omega
          have k2b : decide ((s.size : Int) - (T.size : Int) < (p : Int)) = false := by simp; omega
          have k2 : ¬ ((s.size : Int) - (T.size : Int) < (p : Int)) := by omega
          clear hx hc0 hB hb hT hTt hTl hdr hwp e4 e5 e1 hwl hpart
          change Code.wp _ _ _ _ (wr.drewN 0)
          repeat (first | go_skip | go_guarded | go_step)
          go_quiet (fail)
          repeat (first | go_skip | go_guarded | go_step)
          go_loopw [10] (fun kk wv => ∃ (k' : Nat), k' ≤ T.size ∧ kk = .int .i64 (k' : Int) ∧ Bf wv w1.heap.size 5 ((wipeP ((ws.take i).foldl wipe (tb s)) p k').map bv ++ Z) ∧ Below w1.heap.size w1 wv) (fun kk _ => T.size - (intOf kk).toNat)
          case atStart => exact ⟨0, by omega, rfl, HBF.out, ⟨HW.out.os, HW.out.tape, HW.out.output, HW.out.size, HW.out.block⟩⟩
          case round =>
            clear r1 r2 hpt
            obtain ⟨k', hk', rfl, hB', hb'⟩ := hrel
            have r2 := (hb'.cell (p := ⟨bb, o + i * 3 + 2, none⟩) hbb).trans ((HW.out.cell (p := ⟨bb, o + i * 3 + 2, none⟩) hbb).symm.trans HC2.out)
            by_cases hlk : k' < T.size
            · have hck : (k' : Int) < (T.size : Int) := by omega
              have hlw := wipeP_len ((ws.take i).foldl wipe (tb s)) p k'
              rw [HWL.out] at hlw
              obtain ⟨x, hcx⟩ := hB'.at_ (j := p + k') (by omega)
              have hfx := hB'.frozen (i := p + k') (by simp; omega)
              have HB2 := Lib.hid (hB'.put (j := p + k') (by omega))
              have HW2 := Lib.hid (hb'.setCell (p := ⟨w1.heap.size, p + k', none⟩) (Nat.le_refl _) (.int .u8 32))
              have hpk : (p : Int) + (k' : Int) < (s.size : Int) := by omega
              clear hB' hb' hlw
              repeat (first | go_skip | go_guarded | go_step)
              go_roundw
              case rel => exact ⟨k' + 1, by omega, by go_num, HB2.out, HW2.out⟩
              case measure => simp [intOf] <;> omega
            · obtain rfl : k' = T.size := by omega
              have HB2 := Lib.hid hB'
              have HW2 := Lib.hid hb'
              clear hB' hb'
              repeat (first | go_skip | go_guarded | go_step)
              go_roundw
              case rel => exact ⟨i + 1, p + T.size, by omega, by go_num, by go_num, by omega, HE5.out, by rw [HNX.out, ← HWP.out]; exact HB2.out, HW2.out⟩
              case measure => simp [intOf] <;> omega
        · obtain rfl : i = ws.length := by omega
          have hF : (ws.take ws.length).foldl wipe (tb s) = ws.foldl wipe (tb s) := by rw [List.take_length]
          rw [hF] at hB
          have hFl : (ws.foldl wipe (tb s)).length = s.size := wipes_len _ _ HL.out (fun x hx => by rw [← HL.out]; exact HAT.out x hx)
          have hFw := wiped (by rw [HL.out]; omega) HX.out
          generalize ws.foldl wipe (tb s) = F at hB hFl hFw
          have k1 := run_conv_str (P := Try.prog) wr 34 9 5 Try.underlying34 Try.underlying5 Try.underlying9 _ _ s.size C F (hB.rd hFl)
          clear hB hF HBF hst
          repeat (first | go_skip | go_guarded | go_step)
          clear k1
          refine (ok.words _ wr ?hsz).mono ?_
          case hsz => show F.toArray.size ≤ 200000; rw [List.size_toArray, hFl]; omega
          rintro e w2 ⟨A2, m2, c2, ws2, y2, z2, rfl, ho2, hb2, ha2⟩
          replace ha2 : (ws2, y2, z2) = wordsL F := ha2
          rw [hFw] at ha2
          simp only [Prod.mk.injEq] at ha2
          obtain ⟨rfl, rfl, rfl⟩ := ha2
          obtain rfl : 0 = m2 := rdV_len (OwV.rd ho2)
          have hb12 := hb.trans (hb2.mono hb.size)
          have HR2 := Lib.hid ((HO1.out.below hb12).more hb12.size)
          have HW2 := Lib.hid hb12
          clear ho2 hb hb2 hb12 HW hFw hFl
          dsimp only
          repeat (first | go_skip | go_guarded | go_step)
          refine (ok.join A1 ws.length c1 ws w2 HR2.out HC.out (by omega) (by omega)).mono ?_
          rintro e w3 ⟨rfl, hb3⟩
          obtain ⟨vs, hv, hvt⟩ := again HX.out (by omega)
          have hJl : (joinL ws).length ≤ 200000 := by omega
          generalize joinL ws = J at hv hJl ⊢
          have hb13 := HW2.out.trans (hb3.mono HW2.out.size)
          clear hb3
          dsimp only
          repeat (first | go_skip | go_guarded | go_step)
          refine (ok.words _ w3 ?hsz).mono ?_
          case hsz => show J.toArray.size ≤ 200000; rw [List.size_toArray]; omega
          rintro e w4 ⟨A4, m4, c4, ws4, y4, z4, rfl, ho4, hb4, ha4⟩
          replace ha4 : (ws4, y4, z4) = wordsL J := ha4
          rw [hv] at ha4
          simp only [Prod.mk.injEq] at ha4
          obtain ⟨rfl, rfl, rfl⟩ := ha4
          obtain rfl : m4 = ws4.length := (rdV_len (OwV.rd ho4)).symm
          have hn4 : ws4.length = ws.length := by
            have h := congrArg List.length hvt
            simpa [texts] using h
          have hb14 := hb13.trans (hb4.mono hb13.size)
          have HR1 := Lib.hid ((HO1.out.below hb14).more hb14.size)
          have HR4 := Lib.hid (OwV.rd ho4)
          have HB4 := Lib.hid (HB1.out.trans (hb14.mono HB1.out.size))
          have HT := Lib.hid hvt
          clear hv hvt ho4 hb4 hb13 hb14 hJl HR2 HW2
          rw [hn4] at HR4 ⊢
          clear hn4
          dsimp only
          repeat (first | go_skip | go_guarded | go_step)
          go_loopw [17] (fun p' wv => ∃ (j q : Nat), j ≤ ws.length ∧ p' = .int .i64 (j : Int) ∧ wv = w4.drewN q) (fun p _ => ws.length - (intOf p).toNat)
          case atStart => exact ⟨0, 0, by omega, rfl, rfl⟩
          case round =>
            obtain ⟨j, q, hj, rfl, rfl⟩ := hrel
            by_cases hlj : j < ws.length
            · have hcj : (j : Int) < (ws.length : Int) := by omega
              obtain ⟨b, o, ⟨k, t, a⟩, hA, hbb, hx, hc0, hc1, hc2⟩ := rdV_at HR1.out hlj
              obtain ⟨b', o', ⟨k', t', a'⟩, hA', hbb', hx', hd0, hd1, hd2⟩ := rdV_at HR4.out hlj
              obtain ⟨rfl, rfl⟩ : k' = k ∧ t' = t := by
                have h := congrArg (fun l => l[j]?) HT.out
                dsimp only [texts] at h
                rw [List.getElem?_map, List.getElem?_map, hx, hx'] at h
                simpa using h
              subst hA hA'
              dsimp only at hc0 hc1 hd0 hd1
              obtain ⟨T, hT⟩ : ∃ T : ByteArray, strV t' = sv T := ⟨⟨t'.toArray⟩, rfl⟩
              rw [hT] at hc1 hd1
              have r0 : ∀ q, (w4.drewN q).cell? ⟨b, o + j * 3, none⟩ = some (.int .u8 (k' : Int)) := fun _ => hc0
              have r1 : ∀ q, (w4.drewN q).cell? ⟨b, o + j * 3 + 1, none⟩ = some (sv T) := fun _ => hc1
              have s0 : ∀ q, (w4.drewN q).cell? ⟨b', o' + j * 3, none⟩ = some (.int .u8 (k' : Int)) := fun _ => hd0
              have s1 : ∀ q, (w4.drewN q).cell? ⟨b', o' + j * 3 + 1, none⟩ = some (sv T) := fun _ => hd1
              clear hx hx' hT hc0 hc1 hc2 hd0 hd1 hd2
              repeat (first | go_skip | go_guarded | go_step)
              go_quiet (fail)
              repeat (first | go_skip | go_guarded | go_step)
              go_roundw
              case rel => exact ⟨j + 1, _, by omega, by go_num, rfl⟩
              case measure => simp [intOf] <;> omega
            · obtain rfl : j = ws.length := by omega
              have HBQ := Lib.hid (show Below w.heap.size w (w4.drewN q) from ⟨HB4.out.os, HB4.out.tape, HB4.out.output, HB4.out.size, HB4.out.block⟩)
              repeat (first | go_skip | go_guarded | go_step)
              refine (lWorks_any ok (w4.drewN q)).mono ?_
              rintro e w9 ⟨rfl, hb9⟩
              have HB9 := Lib.hid (HBQ.out.trans (hb9.mono HBQ.out.size))
              clear hb9
              dsimp only
              repeat (first | go_skip | go_guarded | go_step)
              go_ret
              exact ⟨rfl, HB9.out⟩

open Go.ChangeShapes Go.WideShapes Go.ChangeAt

set_option maxRecDepth 100000 in
theorem lifted (ok : LexOk) (os : Os) (started : os.Started) (H : Type) (enc : TypeId × Value → H) :
    ReturnsInHanded {} Try.checked os 4 .any (Rows.lexAgainSpec.pre6 enc Try.prog Try.f4 Rows.lexAgainRow.domain false) (Rows.lexAgainSpec.post enc Try.prog Try.f4 false true false false) := by
  refine returnsInHanded_of_change_sized (C := Try.checked) ownK started (by kernel_rfl) Try.func4
    (ChangeSpec.witness6 (enc := enc) (C := Try.checked) false ⟨#[], #[.string ⟨#[]⟩], []⟩ 8 (by kernel_rfl) (by kernel_rfl) (by kernel_rfl) (by kernel_rfl)) ?_
  intro W base args ds gs before hval0 hW hcnd hsz0 _
  have hsz : (DataW.weightsEach Try.prog (Try.f4.params.toList ++ Rows.lexAgainSpec.plain.varTypes Try.prog) (ds ++ gs)).all (· ≤ reachBytes) = true := hsz0
  have hval : ∀ (j : Nat) t v, Try.f4.params[j]? = some t → args[j]? = some v → Value.okWide Try.prog W .any base t v := hval0
  have hlt : ∀ x ∈ before, x.block < W.heap.size := fun x hx => by simpa using hW.lt x hx
  have hW' := hW
  obtain ⟨p, q, hA0, hV, rfl, hfz, hnd⟩ := hW
  have hA : DataW.TrodAll enc Try.prog W 0 (fun _ => true) true Try.f4.params.toList args.toList ds p := hA0
  rw [Try.params4] at hA hval hsz
  obtain ⟨v0, vs0, d0, ds0, p0, q0, hargs, rfl, rfl, h0, r0⟩ := trodAll_cons hA
  obtain ⟨rfl, rfl, rfl⟩ := trodAll_nil r0
  obtain rfl : args = #[v0] := by cases args; simp_all
  obtain ⟨rfl, rfl⟩ := trodVars_none hV
  obtain ⟨s, rfl, rfl, rfl, hs0⟩ := Go.ChangeMaps.open_string Try.underlying9 (hval 0 9 v0 rfl rfl) h0
  have main : Calls Try.prog 4 #[sv s] W fun e w' => e = .returned (.bool true) ∧ Below W.heap.size W w' := by
    exact walk ok s W
  refine main.mono fun e W' ⟨he, hg⟩ => ?_
  subst he
  exact ⟨_, rfl, post_law laidOut rfl (by kernel_rfl) hW' hg rfl Try.underlying4 rfl rfl rfl⟩

theorem proved_of (ok : LexOk) : Rows.LexAgainSaid :=
  OpenClaim.holds_of_wide 4 Try.f4 rfl rfl rfl rfl rfl rfl rfl ⟨rfl, rfl, rfl, rfl, rfl⟩ rfl rfl rfl rfl rfl (by kernel_rfl) Try.func4 (by kernel_rfl)
    (of_decide_eq_true (by kernel_rfl)) (by unfold Func.isWrapper; first | (rw [if_pos (by decide +kernel)]; kernel_rfl) | (rw [if_neg (by decide +kernel)]; exact ⟨rfl, rfl⟩))
    (fun os started H enc _ => lifted ok os started H enc)
#print axioms proved_of
end Go.Proofs.Ytjafbkkdjmlaoaa.lexAgain
