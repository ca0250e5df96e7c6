/- Texts, packed: PbL PcA PcB PcC PcD PcE -/
import Derived.Test.YtoigpbajefkpoaaGreatDoorPyO
import Derived.Test.YtoigpbajefkpoaaGreatDoorPyP
import Derived.Lib.Builder
import Derived.Lib.OthersKept
import Derived.Lib.AppendStr
import Derived.Lib.UnsafeStr
import Derived.Laws.Externs
import Derived.Shelf.Strings.Builder1
import Derived.Test.YtoigpbajefkpoaaGreatDoorPyH
import Derived.Deep.RegionHeld3
set_option linter.unusedVariables false
set_option linter.unusedSimpArgs false
namespace Go.Proofs.YtoigpbajefkpoaaGreatDoor
open Go Go.RowKit

theorem words_ws {text : List UInt8} {ws : List Wd} {y z : Nat} (hw : (ws, y, z) = wordsL text) : Ws ws := by
  have hw := hw.symm
  unfold wordsL at hw
  split at hw
  · simp only [Prod.mk.injEq] at hw
    obtain ⟨rfl, rfl, rfl⟩ := hw
    intro w hw; cases hw
  · have ha := lexG_alone 0 text
    split at hw
    · rename_i he
      simp only [Prod.mk.injEq] at hw
      obtain ⟨rfl, rfl, rfl⟩ := hw
      rw [he] at ha
      exact ws_alone ha
    · simp only [Prod.mk.injEq] at hw
      obtain ⟨rfl, rfl, rfl⟩ := hw
      intro w hw; cases hw
theorem wdC_len (x : Wd) : (wdC x).length = 3 := rfl
theorem wd_flat (L : List Wd) : (L.flatMap wdC).length = L.length * 3 := by
  induction L with
  | nil => rfl
  | cons x L ih => rw [List.flatMap_cons, List.length_append, ih, wdC_len, List.length_cons]; omega
theorem WR.ofOwn {w : World} {base : Nat} {A : Option Addr} {c n : Nat} {L : List Wd} (h : OwV LW w base A c (n + 1) L) : ∃ b, A = some ⟨b, 0, none⟩ ∧ base ≤ b ∧ b < w.heap.size ∧ n + 1 ≤ c ∧ WR w b 0 L := by
  have hrd := Rd.ofOwn h
  have h2 := h.2
  rcases h2 with ⟨_, h0⟩ | ⟨b, cap, cur, hv, hb, hh, hn, _⟩
  · omega
  · simp only [Value.slice.injEq] at hv
    obtain ⟨rfl, _, rfl⟩ := hv
    refine ⟨b, rfl, hb, (Array.getElem?_eq_some_iff.1 hh).1, hn, ⟨_, _, hh⟩, fun i x hx => ?_⟩
    obtain ⟨b', o', e', _, hcell⟩ := hrd.2 (by omega)
    simp only [Option.some.injEq, Addr.mk.injEq] at e'
    obtain ⟨rfl, rfl, _⟩ := e'
    have k0 := hcell (i * 3 + 0) _ (by rw [flat_at wdC 3 wdC_len hx 0 (by omega)]; rfl)
    have k1 := hcell (i * 3 + 1) _ (by rw [flat_at wdC 3 wdC_len hx 1 (by omega)]; rfl)
    have k2 := hcell (i * 3 + 2) _ (by rw [flat_at wdC 3 wdC_len hx 2 (by omega)]; rfl)
    rw [show i * 3 = 3 * i by omega] at k0 k1 k2
    rw [show (0 : Nat) + 3 * i + 1 = 0 + (3 * i + 1) by omega, show (0 : Nat) + 3 * i + 2 = 0 + (3 * i + 2) by omega]
    exact ⟨k0, k1, k2⟩
theorem wd_rd1 {w : World} {b : Nat} {x : Wd} (h : Bk w b LW (wdC x)) : RdV w w.heap.size (some ⟨b, 0, none⟩) 1 [x] :=
  ⟨rfl, fun _ => ⟨b, 0, rfl, h.lt, fun j u hu => by rw [Nat.zero_add, h.cell]; simpa using hu⟩⟩
theorem rdOwnB {w w' : World} {base base' : Nat} {e : TypeId} {s n : Nat} {A : Option Addr} {c c' : Nat} {xs : List Value} (h : w.ownsRow base e s (.slice A n c) n xs) (h' : w'.ownsRow base' e s (.slice A n c') n xs) : Rd w' w.heap.size s A n xs := by
  have h1 := Rd.ofOwn h
  have h2 := Rd.ofOwn h'
  refine ⟨h2.1, fun hn => ?_⟩
  obtain ⟨b, o, e1, hb, hc⟩ := h1.2 hn
  obtain ⟨b', o', e2, hb', hc'⟩ := h2.2 hn
  rw [e1] at e2
  simp only [Option.some.injEq, Addr.mk.injEq] at e2
  obtain ⟨rfl, rfl, _⟩ := e2
  exact ⟨b, o, e1, hb, hc'⟩
theorem rdRsB {w w' : World} {base : Nat} {A : Option Addr} {c n : Nat} {Q : List RlA} {L : List Rl} (h : OwRs w base A c n Q L) (h' : OwRs w' base A c n Q L) : RdRs w' w.heap.size A n Q L :=
  ⟨h.lenQ, h.lenL, rdOwnB h.top h'.top, fun i q x h1 h2 => ⟨rdOwnB (h.row i q x h1 h2).1 (h'.row i q x h1 h2).1, (h.row i q x h1 h2).2.lenR, (h.row i q x h1 h2).2.lenL, rdOwnB (h.row i q x h1 h2).2.top (h'.row i q x h1 h2).2.top, fun j r y e1 e2 => rdOwnB ((h.row i q x h1 h2).2.row j r y e1 e2) ((h'.row i q x h1 h2).2.row j r y e1 e2)⟩⟩
set_option maxRecDepth 100000 in
set_option maxHeartbeats 8000000 in
theorem parse_any (g : Nat) (F : Nat → Prop) (l : List ByteArray) (s : ByteArray) (w : World) (hL : Laid w) (h : Tb w g F l) (hg : Good 4096 l) (hs : s.size ≤ 200000) :
    Calls Tryz.prog 11 #[.pointer (some ⟨g, 0, none⟩), sv s] w fun e w' => ∃ (A : Option Addr) (n c : Nat) (Q : List RlA) (rs : List Rl) (ns : List ByteArray) (y z : Nat) (F' : Nat → Prop), e = .returned (.tuple #[.slice A n c, .int .i64 (y : Int), .int .i64 (z : Int)]) ∧ n ≤ c ∧ n ≤ 100000 ∧ (∀ w2, Turn (fun k => F' k ∨ k < w.heap.size) w' w2 → RdRs w2 w'.heap.size A n Q rs) ∧ Tb w' g F' ns ∧ Turn F w w' ∧ (∀ k, F' k → F k ∨ w.heap.size ≤ k) ∧ (rs, ns, y, z) = parseL l (tb s) := by
  have HL := Lib.hid hL
  have HT := Lib.hid h
  have HG := Lib.hid hg
  have HLEN := Lib.hid (tb_len s)
  have hmf : ∀ (fn : Fn) (first cap : Array Value) (w : World), (Instr.makeFunc fn first cap).run Tryz.prog w = .ok (.func fn first cap) w := fun _ _ _ _ => rfl
  clear hL h hg
  go_enter Tryz.func11, Tryz.ntmps11
  repeat (first | go_skip | go_guarded | go_step)
  refine (words_any s w (by omega)).mono ?_
  rintro e w1 ⟨A, m, c, ws, y, z, rfl, ho, hb, hw⟩
  have HW := Lib.hid hw
  have HO := Lib.hid ho
  have HB := Lib.hid hb
  have HPL := Lib.hid (show parseL l (tb s) = if z ≠ 0 then ([], l, y, z) else match rulesE (tb s).length ws.length [] (ws, l, []) with | .ok (rs, s) => (rs, s.2.1, 0, 0) | .error (e, a) => ([], l, a, e) by unfold parseL; rw [← hw]; rfl)
  clear hw ho hb
  dsimp only
  by_cases hz : z = 0
  · subst hz
    have HCNT := Lib.hid (words_count HW.out)
    have HM := Lib.hid (show ws.length = m by have := (Rd.ofOwn HO.out).1; rw [wd_flat] at this; omega)
    have hm5 : m ≤ 65536 := by rw [← HM.out]; exact HCNT.out
    go_upto_region 7 with (fail)
    obtain ⟨U, a0, hU, hub, ha0, hb0⟩ : ∃ U a0, U = w1.alloc (.cells #[.int .u8 0, .string ⟨#[]⟩, .int .i64 (s.size : Int)] LW) ∧ Below w1.heap.size w1 U ∧ w1.heap.size = a0 ∧ Bk U a0 LW [.int .u8 0, .string ⟨#[]⟩, .int .i64 (s.size : Int)] := ⟨_, _, rfl, (Below.refl _ _).alloc (Nat.le_refl _) _, rfl, Bk.new w1 _ _⟩
    rw [← hU, ha0]
    have k0 := hb0.readT (Below.refl _ _) 0 rfl
    have k1 := hb0.readT (Below.refl _ _) 1 rfl
    have k2 := hb0.readT (Below.refl _ _) 2 rfl
    have hlit : (Instr.buildSlice 68 1 #[(0, .agg #[.int .u8 0, .string ⟨#[]⟩, .int .i64 (s.size : Int)])]).run Tryz.prog U = _ := run_litLV 0 [] s.size U
    have HOU := Lib.hid (ownBelow HO.out hub (Nat.le_refl _))
    have HBU := Lib.hid (HB.out.trans (hub.mono HB.out.size))
    clear hU hub ha0 hb0
    have hbx : Below U.heap.size U (U.alloc (.cells (wdC (0, [], s.size)).toArray LW)) := (Below.refl _ _).alloc (Nat.le_refl _) _
    have HRX := Lib.hid (show RdV (U.alloc (.cells (wdC (0, [], s.size)).toArray LW)) (U.alloc (.cells (wdC (0, [], s.size)).toArray LW)).heap.size (some ⟨U.heap.size, 0, none⟩) 1 [(0, [], s.size)] from wd_rd1 (Bk.new U _ (wdC (0, [], s.size))))
    have HOX := Lib.hid (ownBelow HOU.out hbx (Nat.le_refl _))
    have HBX := Lib.hid (HBU.out.trans (hbx.mono HBU.out.size))
    clear hbx
    repeat (first
      | (at_builtin; refine appLV _ rfl (.tmp 25) (.tmp 27) rfl w.heap.size A c m ws rfl HOX.out _ _ 1 1 [(0, [], s.size)] rfl HRX.out (by have := hm5; omega) HBX.out.size ?_
         intro A6 c6 V6 ho6 hb6
         have HO6 := Lib.hid ho6
         have HB6 := Lib.hid (HBX.out.trans hb6)
         clear hlit ho6 hb6 k0 k1 k2)
      | go_skip | go_guarded | go_step)
    refine (tNew V6).mono ?_
    rintro e w2 ⟨gf, Ff, rfl, hf, hFf, hb2⟩
    have HF := Lib.hid hf
    have HFF := Lib.hid hFf
    have HB2 := Lib.hid (HB6.out.trans (hb2.mono HB6.out.size))
    have HO7 := Lib.hid (ownBelow HO6.out hb2 (Nat.le_refl _))
    have HV6 := Lib.hid HB6.out.size
    clear hf hFf hb2
    dsimp only
    go_upto_region 8 with (fail)
    obtain ⟨wb, hA6, hwb, hwl, hcap, hwr⟩ := WR.ofOwn HO7.out
    subst hA6
    obtain ⟨X, gp, hX, hxb, hgp, hbp⟩ : ∃ X gp, X = w2.alloc (.cells #[.slice (some ⟨wb, 0, none⟩) (m + 1) c6, .pointer (some ⟨g, 0, none⟩), .pointer (some ⟨gf, 0, none⟩), .slice none 0 0] LT) ∧ Below w2.heap.size w2 X ∧ w2.heap.size = gp ∧ Bk X gp LT [.slice (some ⟨wb, 0, none⟩) (m + 1) c6, .pointer (some ⟨g, 0, none⟩), .pointer (some ⟨gf, 0, none⟩), .slice none 0 0] := ⟨_, _, rfl, (Below.refl _ _).alloc (Nat.le_refl _) _, rfl, Bk.new w2 _ _⟩
    rw [← hX, hgp]
    have HXB := Lib.hid (HB2.out.trans (hxb.mono HB2.out.size))
    have HFN := Lib.hid (show ∀ k, LFp gp Ff (.slice none 0 0) k → w.heap.size ≤ k by
      rintro k (rfl | hk | hk)
      · rw [← hgp]; exact HB2.out.size
      · exact Nat.le_trans HV6.out (HFF.out k hk)
      · simp [Value.ownBlock] at hk)
    have HS := Lib.hid (show LSt g F l s.size wb X (LFp gp Ff (.slice none 0 0)) gp (ws, l, []) from by
      refine ⟨0, c6, none, 0, 0, gf, Ff, [], ?_, hwr.turn (Turn.ofBelow (G := fun _ => False) hxb) (fun h => h), by show ws.length + 1 ≤ c6; rw [HM.out]; exact hcap, by show ws.length ≤ 70000; rw [HM.out]; omega, HT.out.later HXB.out, HF.out.later hxb, by simp, World.ownsRow_nil _ _ _ _, rfl, fun k hk hf => ?_, fun k hk => by simp [Value.ownBlock] at hk, ⟨words_ws HW.out, HG.out, List.nodup_nil, by simp⟩⟩
      · show Bk X gp LT [.slice (some ⟨wb, 0, none⟩) (ws.length + 1) c6, _, _, _]
        rw [HM.out]
        exact hbp
      · have h1 := HFF.out k hk
        have h2 := HT.out.lt k hf
        have h3 := HV6.out
        omega)
    clear hwb hwl hcap hwr hX hxb hgp hbp
    repeat (first | go_skip | go_guarded | go_step)
    refine (caughtR_any X (HL.out.later HXB.out) HS.out (fun h0 => by have := HFN.out 0 h0; have := HL.out.pos; omega)).mono ?_
    have HPL2 := Lib.hid (show parseL l (tb s) = match rulesE s.size ws.length [] (ws, l, []) with | .ok (rs, s) => (rs, s.2.1, 0, 0) | .error (e, a) => ([], l, a, e) by rw [HPL.out, if_neg (by simp), HLEN.out])
    rintro e w3 (⟨rs, s', A, n, c, Q, Ft', hr, rfl, hor, hn, ht, htu, hgr⟩ | ⟨z, hr, rfl, htn⟩)
    · have HR := Lib.hid (show parseL l (tb s) = (rs, s'.2.1, 0, 0) by rw [HPL2.out, show rulesE s.size ws.length [] (ws, l, []) = .ok (rs, s') from hr])
      have HOR := Lib.hid hor
      have HN := Lib.hid hn
      have HT3 := Lib.hid ht
      have HTU := Lib.hid htu
      have HGR := Lib.hid hgr
      clear hr hor hn ht htu hgr
      dsimp only
      repeat (first | go_skip | go_guarded | go_step)
      go_ret3
      have hle : w.heap.size ≤ X.heap.size := HXB.out.size
      refine ⟨A, n, c, Q, rs, s'.2.1, 0, 0, Ft', rfl, HOR.out.cap, by have := HN.out; omega, fun w4 ht4 => ?_, HT3.out, ?_, ?_, HR.out.symm⟩
      · have hmm : OwRs w4 X.heap.size A c n Q rs := HOR.out.map fun e s v n xs he hh => ht4.own hh (fun k hk e' => by
          rcases e' with hf | hlt
          · obtain ⟨cs, t, fr, hh', rfl⟩ := own_type hh hk
            rcases HT3.out.types hf hh' with e1 | e1 <;> rcases he with e2 | e2 | e2 <;> rw [e1] at e2 <;> exact absurd e2 (by decide)
          · have := (World.ownsRow.lt hh k hk).1
            omega)
        exact rdRsB HOR.out hmm
      · exact (Turn.ofBelow (G := F) HXB.out).then_ HTU.out (fun k hk e => e.elim (fun h => by have := HFN.out k h; omega) (fun h => h))
      · intro k hk
        rcases HGR.out k hk with h | h
        · exact .inl h
        · exact .inr (by omega)
    · have HR := Lib.hid (show parseL l (tb s) = ([], l, z.2, z.1) by rw [HPL2.out, show rulesE s.size ws.length [] (ws, l, []) = .error z from hr])
      have HTN := Lib.hid htn
      clear hr htn
      dsimp only
      repeat (first | go_skip | go_guarded | go_step)
      go_ret3
      exact ⟨none, 0, 0, [], [], l, z.2, z.1, F, rfl, by omega, by omega, fun w2 _ => ⟨rfl, rfl, Rd.nil, fun i q x h => by simp at h⟩, HS.out.tab.turn HTN.out (fun k hk hf => HS.out.notT hf hk), (Turn.ofBelow (G := F) HXB.out).then_ HTN.out (fun k hk e => by have := HFN.out k e; omega), fun k hk => .inl hk, HR.out.symm⟩
  · have HA := Lib.hid (show parseL l (tb s) = ([], l, y, z) by rw [HPL.out, if_pos hz])
    have hd : ((z : Int) != 0) = true := by simp; omega
    clear hz HPL
    repeat (first | go_skip | go_guarded | go_step)
    refine bodyPost_ret (results_tmp3 rfl _ _ _) rfl ?_
    exact ⟨none, 0, 0, [], [], l, y, z, F, rfl, by omega, by omega, fun w2 _ => ⟨rfl, rfl, Rd.nil, fun i q x h => by simp at h⟩, HT.out.later HB.out, Turn.ofBelow HB.out, fun k hk => .inl hk, HA.out.symm⟩
end Go.Proofs.YtoigpbajefkpoaaGreatDoor

set_option linter.unusedVariables false
set_option linter.unusedSimpArgs false
namespace Go.Proofs.YtoigpbajefkpoaaGreatDoor
open Go Go.RowKit

abbrev LP : TypeId := 95
abbrev U8 : TypeId := 5
abbrev bp1 (b : Nat) : Value := .pointer (some ⟨b, 1, none⟩)
/-- What turns while the printer at b writes: b, rows of bytes, what is new since B. -/
structure Kw (B b : Nat) (w w' : World) : Prop where
  below : Below B w w'
  kept : Lib.OthersKept U8 (some b) w w'
theorem Kw.refl (B b : Nat) (w : World) : Kw B b w w := ⟨Below.refl _ _, Lib.OthersKept.refl _ _ _⟩
theorem Kw.trans {B b : Nat} {x y z : World} (h : Kw B b x y) (k : Kw B b y z) : Kw B b x z := ⟨h.below.trans k.below, h.kept.trans k.kept⟩
theorem Kw.later {B b : Nat} {x y z : World} (h : Kw B b x y) (hb : Below y.heap.size y z) (hB : B ≤ y.heap.size) : Kw B b x z :=
  ⟨h.below.trans (hb.mono hB), fun k o hk h1 h2 => by
    have h3 := h.kept k o hk h1 h2
    rw [hb.block k (Array.getElem?_eq_some_iff.1 h3).1]
    exact h3⟩
theorem Kw.ofBelow {B b : Nat} {x y : World} (hb : Below x.heap.size x y) (hB : B ≤ x.heap.size) : Kw B b x y := (Kw.refl B b x).later hb hB
theorem Kw.bk {B b a : Nat} {x y : World} {t : TypeId} {cs : List Value} (h : Kw B b x y) (hb : Bk x a t cs) (ha : a ≠ b) (ht : t ≠ U8) : Bk y a t cs :=
  h.kept a _ hb (fun e => ha (by simpa using e)) (fun c fz e => by
    simp only [Obj.cells.injEq] at e
    exact ht e.2.1)
/-- The printer at block b, of the table tp; its text so far. -/
def PrS (w : World) (B b : Nat) (tp : Value) (l : List UInt8) : Prop :=
  B ≤ b ∧ ∃ a v, Bk w b LP [tp, a, v] ∧ (a = .pointer none ∨ a = bp1 b) ∧ w.ownsRow B U8 1 v l.length (Lib.byteCells l) ∧ (l = [] → v = .slice none 0 0)
section
variable {w w' : World} {B b : Nat} {tp : Value} {l : List UInt8}
theorem PrS.lt (h : PrS w B b tp l) : b < w.heap.size := by
  obtain ⟨_, a, v, h1, _⟩ := h
  exact h1.lt
theorem PrS.bk (h : PrS w B b tp l) : ∃ a v, Bk w b LP [tp, a, v] := by
  obtain ⟨_, a, v, h1, _⟩ := h
  exact ⟨a, v, h1⟩
theorem PrS.later (h : PrS w B b tp l) (hb : Below w.heap.size w w') : PrS w' B b tp l := by
  obtain ⟨h0, a, v, h1, h2, h3, h4⟩ := h
  exact ⟨h0, a, v, h1.later hb, h2, ownBelow h3 hb (Nat.le_refl _), h4⟩
/-- Another block turns, of another type than bytes. -/
theorem PrS.only {c : Nat} {t : TypeId} {cs : List Value} (h : PrS w B b tp l) (hb : Bk w c t cs) (ht : Turn (fun k => k = c) w w') (h1 : t ≠ LP) (h2 : t ≠ U8) : PrS w' B b tp l := by
  obtain ⟨h0, a, v, g1, g2, g3, g4⟩ := h
  have hne : ¬ b = c := fun e => by
    subst e
    have := g1.symm.trans hb
    simp only [Option.some.injEq, Obj.cells.injEq] at this
    exact h1 this.2.1.symm
  exact ⟨h0, a, v, ht.bk g1 hne, g2, ht.own g3 (fun k hk e => own_far g3 hb h2 (by rw [hk, e])), g4⟩
end
theorem prLies : liesAt Tryz.prog Tryz.prog.depth LP (3 / Tryz.prog.cellsOf LP) 1 93 1 = true := by kernel_rfl
theorem bldInfo : (Tryz.prog.info? 93).map (·.size) = some 2 := by kernel_rfl
theorem u8InfoP : (Tryz.prog.info? 5).map (fun i => (i.zero, i.size, i.bytes)) = some (some (.int .u8 0), 1, 1) := by kernel_rfl
theorem run_noEscP (x : Value) (w : World) : (callFunc 123 #[x]).run Tryz.prog w = .ok (.value x) w := by
  rw [run_callFunc_extern Tryz.func123 (by kernel_rfl) (by kernel_rfl) (by kernel_rfl) (e := Extern.AbiNoEscape.same) (by kernel_rfl), Lib.run_noEscape]
  rfl
theorem pr_turn {B b : Nat} {w : World} {i : Nat} {v : Value} (hB : B ≤ b) : Kw B b w (w.setCell ⟨b, i, none⟩ v) :=
  ⟨(Below.refl B w).setCell (p := ⟨b, i, none⟩) hB v, (Lib.OthersKept.refl U8 (some b) w).setCell ⟨b, i, none⟩ rfl v⟩

set_option maxRecDepth 100000 in
set_option maxHeartbeats 2000000 in
theorem pCheck_any (B b : Nat) (tp : Value) (l : List UInt8) (w : World) (h : PrS w B b tp l) :
    Calls Tryz.prog 110 #[bp1 b] w fun e w' => e = .returned (.tuple #[]) ∧ (∃ v, Bk w' b LP [tp, bp1 b, v] ∧ w'.ownsRow B U8 1 v l.length (Lib.byteCells l) ∧ (l = [] → v = .slice none 0 0)) ∧ Kw B b w w' := by
  obtain ⟨j, hj, hjs⟩ := Option.map_eq_some_iff.1 bldInfo
  obtain ⟨hB, a, v, h1, h2, h3, h4⟩ := h
  have hsh : w.shape? b = some (LP, 3) := by
    have h1' : w.heap[b]? = some (.cells #[tp, a, v] LP (0, 0)) := h1
    simp [World.shape?, h1']
  have c1 := h1.readT (Below.refl _ _) 1 rfl
  have f1 := h1.frozen 1
  rcases h2 with rfl | rfl
  · have e1 := Lib.run_to_unsafe (P := Tryz.prog) (src := 90) (dst := 161) w ⟨b, 1, none⟩ Tryz.underlying90 Tryz.underlying161 hj (by rw [hjs]; decide) hsh (show (1 : Nat) < 3 by decide)
    have e2 := Lib.run_from_unsafe (P := Tryz.prog) (src := 161) (dst := 90) w ⟨b, 1, none⟩ Tryz.underlying161 Tryz.underlying90 hj hsh prLies
    have e3 := run_noEscP (bp1 b) w
    have HH := Lib.hid (show Bk (w.setCell ⟨b, 1, none⟩ (bp1 b)) b LP [tp, bp1 b, v] from h1.set_ 1 _)
    have HO := Lib.hid (((Turn.refl (fun k => k = b) w).setCell (p := ⟨b, 1, none⟩) (fun _ => rfl) (bp1 b)).own h3 (fun k hk e => own_far h3 h1 (by decide) (by rw [hk, e])))
    have HK := Lib.hid (pr_turn (w := w) (i := 1) (v := bp1 b) hB)
    have H4 := Lib.hid h4
    clear h1 h3 h4 hsh
    go_enter Tryz.func110, Tryz.ntmps110
    repeat (first | go_skip | go_guarded | go_step)
    go_end0
    exact ⟨rfl, ⟨v, HH.out, HO.out, H4.out⟩, HK.out⟩
  · have e1 := Lib.run_neq_ptr_same (P := Tryz.prog) (tp := 90) w ⟨b, 1, none⟩ Tryz.underlying90 hj
    have HH := Lib.hid h1
    have HO := Lib.hid h3
    have H4 := Lib.hid h4
    clear h1 h3 h4 hsh
    go_enter Tryz.func110, Tryz.ntmps110
    repeat (first | go_skip | go_guarded | go_step)
    go_end0
    exact ⟨rfl, ⟨v, HH.out, HO.out, H4.out⟩, Kw.refl _ _ _⟩
/-- What an append onto the printer's text leaves. -/
theorem prPut {B b : Nat} {tp v v' : Value} {l l' : List UInt8} {w0 w1 w2 : World} (hB : B ≤ b) (h1 : Bk w1 b LP [tp, bp1 b, v]) (ho : w1.ownsRow B U8 1 v l.length (Lib.byteCells l)) (hk : Kw B b w0 w1) (hBw : B ≤ w0.heap.size)
    (hg : w1.grownBy w2 v.ownBlock) (ho' : w2.ownsRow B U8 1 v' l'.length (Lib.byteCells l')) (hl : l' ≠ []) :
    Bk w2 b LP [tp, bp1 b, v] ∧ PrS (w2.setCell ⟨b, 2, none⟩ v') B b tp l' ∧ Kw B b w0 (w2.setCell ⟨b, 2, none⟩ v') := by
  have hne := own_far ho h1 (by decide)
  have ht : Turn (fun k => v.ownBlock = some k) w1 w2 := Turn.ofGrown hg (fun k hk => hk)
  have hb2 := ht.bk h1 hne
  have h3 : Turn (fun k => k = b) w2 (w2.setCell ⟨b, 2, none⟩ v') := (Turn.refl (fun k => k = b) w2).setCell (p := ⟨b, 2, none⟩) (fun _ => rfl) v'
  have hs1 := hk.below.size
  have hk2 : Kw B b w1 w2 := by
    refine ⟨(Below.refl B w1).grown hg (by omega) (fun k hk => (ho.lt k hk).1), (Lib.OthersKept.refl U8 (some b) w1).grown hg (fun q hq => ?_)⟩
    obtain ⟨cs, t, fr, hh, rfl⟩ := own_type ho hq
    exact ⟨cs, fr, hh⟩
  exact ⟨hb2, ⟨hB, _, v', hb2.set_ 2 v', .inr rfl, h3.own ho' (fun k hk e => own_far ho' hb2 (by decide) (by rw [hk, e])), fun e => absurd e hl⟩, (hk.trans hk2).trans (pr_turn hB)⟩
theorem strCells_tb (s : ByteArray) : Lib.strCells s = Lib.byteCells (tb s) := rfl
theorem byteCells_app (a c : List UInt8) : Lib.byteCells (a ++ c) = Lib.byteCells a ++ Lib.byteCells c := by simp [Lib.byteCells]

set_option maxRecDepth 100000 in
set_option maxHeartbeats 2000000 in
theorem pString_any (B b : Nat) (tp : Value) (l : List UInt8) (s : ByteArray) (w : World) (h : PrS w B b tp l) (hlen : l.length + s.size ≤ 140737488355328) (hBw : B ≤ w.heap.size) (hs : tb s ≠ []) :
    Calls Tryz.prog 90 #[bp1 b, sv s] w fun e w' => e = .returned (.tuple #[.int .i64 s.size, .nilIface]) ∧ PrS w' B b tp (l ++ tb s) ∧ Kw B b w w' := by
  obtain ⟨i0, hi, hz0, hz1, hz2⟩ := info_parts u8InfoP
  have HLEN := Lib.hid hlen
  have HB := Lib.hid h.1
  have HS := Lib.hid hs
  clear hlen hs
  go_enter Tryz.func90, Tryz.ntmps90
  repeat (first | go_skip | go_guarded | go_step)
  refine (pCheck_any B b tp l w h).mono ?_
  rintro e w1 ⟨rfl, ⟨v, h1, ho, h4⟩, hk⟩
  have c2 := h1.readT (Below.refl _ _) 2 rfl
  have HO := Lib.hid ho
  have HP := Lib.hid (fun (v' : Value) (w2 : World) => prPut (l' := l ++ tb s) (v' := v') (w2 := w2) HB.out h1 ho hk hBw)
  have hb1s := hk.below.size
  clear h1 ho h4 hk h
  dsimp only
  repeat (first
    | (at_builtin; refine Lib.wpList_append_own_string _ rfl _ _ 91 9 rfl B 5 i0 Tryz.underlying91 Tryz.underlying9 hi hz0 hz1 hz2 v l.length (Lib.byteCells l) rfl HO.out s rfl (by have := HLEN.out; simp only [maxLen]; omega) HLEN.out (by omega) ?_
       intro v' w2 hown' hgrow _
       obtain ⟨hb2, q1, q2⟩ := HP.out _ _ hgrow (by rw [byteCells_app, List.length_append, tb_len, ← strCells_tb]; exact hown') (by simp [HS.out])
       have Q1 := Lib.hid q1
       have Q2 := Lib.hid q2
       have d2 : w2.cell? ⟨b, 2, none⟩ = some v := hb2.readT (Below.refl _ _) 2 rfl
       have f2 : w2.frozen? ⟨b, 2, none⟩ = false := hb2.frozen 2
       obtain ⟨ao, cap, rfl, _⟩ := ownForm hown'
       clear q1 q2 hb2 hown' hgrow HP)
    | go_skip | go_guarded | go_step)
  go_ret2
  exact ⟨rfl, Q1.out, Q2.out⟩
theorem run_lit8P (x : Nat) (w : World) : (Instr.buildSlice 91 1 #[(0, .int .u8 (x : Int))]).run Tryz.prog w = .ok (.slice (some ⟨w.heap.size, 0, none⟩) 1 1) (w.alloc (.cells #[.int .u8 (x : Int)] 5)) := by
  obtain ⟨i0, hi, hz0, hz1, hz2⟩ := info_parts u8InfoP
  simp [Instr.buildSlice, run_underlying Tryz.underlying91, sizeOf, typeInfo, zeroValue, hi, hz0, hz1, newRow, Instr.fill]
  kernel_rfl
set_option maxRecDepth 100000 in
set_option maxHeartbeats 2000000 in
theorem pByte_any (B b : Nat) (x : UInt8) (tp : Value) (l : List UInt8) (w : World) (h : PrS w B b tp l) (hlen : l.length + 1 ≤ 140737488355328) (hBw : B ≤ w.heap.size) :
    Calls Tryz.prog 121 #[bp1 b, .int .u8 (x.toNat : Int)] w fun e w' => e = .returned .nilIface ∧ PrS w' B b tp (l ++ [x]) ∧ Kw B b w w' := by
  obtain ⟨i0, hi, hz0, hz1, hz2⟩ := info_parts u8InfoP
  have HLEN := Lib.hid hlen
  have HB := Lib.hid h.1
  clear hlen
  go_enter Tryz.func121, Tryz.ntmps121
  repeat (first | go_skip | go_guarded | go_step)
  refine (pCheck_any B b tp l w h).mono ?_
  rintro e w1 ⟨rfl, ⟨v, h1, ho, h4⟩, hk⟩
  have c2 := h1.readT (Below.refl _ _) 2 rfl
  have hb1s := hk.below.size
  have hbx : Below w1.heap.size w1 (w1.alloc (.cells #[.int .u8 (x.toNat : Int)] 5)) := (Below.refl _ _).alloc (Nat.le_refl _) _
  have HO := Lib.hid (ownBelow ho hbx (Nat.le_refl _))
  have HP := Lib.hid (fun (v' : Value) (w2 : World) => prPut (l' := l ++ [x]) (v' := v') (w2 := w2) HB.out (h1.later hbx) (ownBelow ho hbx (Nat.le_refl _)) (hk.later hbx (by omega)) hBw)
  have HC := Lib.hid (show ∀ (j : Nat) (u : Value), [Value.int .u8 (x.toNat : Int)][j]? = some u → (w1.alloc (.cells #[.int .u8 (x.toNat : Int)] 5)).cell? (Addr.add ⟨w1.heap.size, 0, none⟩ j) = some u from fun j u hu => by
    rw [addPlain, Nat.zero_add, Lib.cell_of_heap (heap_alloc_new w1 _)]
    simpa using hu)
  have hlit := run_lit8P x.toNat w1
  have hsz : (w1.alloc (.cells #[.int .u8 (x.toNat : Int)] 5)).heap.size = w1.heap.size + 1 := by simp
  clear h1 ho h4 hk h hbx
  dsimp only
  repeat (first
    | (at_builtin; refine Go.wpList_append_own _ rfl _ _ 91 rfl B 5 i0 _ 1 1 Tryz.underlying91 hi hz0 hz1 hz2 rfl (by decide) v l.length (Lib.byteCells l) rfl HO.out ⟨w1.heap.size, 0, none⟩ 1 1 [.int .u8 (x.toNat : Int)] rfl rfl HC.out (by simp [Value.oneCell']) (by have := HLEN.out; simp only [maxLen]; omega) (by have := HLEN.out; omega) (by omega) ?_
       intro v' w2 hown' hgrow _
       obtain ⟨hb2, q1, q2⟩ := HP.out _ _ hgrow (by rw [byteCells_app, List.length_append]; exact hown') (by simp)
       have Q1 := Lib.hid q1
       have Q2 := Lib.hid q2
       have d2 : w2.cell? ⟨b, 2, none⟩ = some v := hb2.readT (Below.refl _ _) 2 rfl
       have f2 : w2.frozen? ⟨b, 2, none⟩ = false := hb2.frozen 2
       obtain ⟨ao, cap, rfl, _⟩ := ownForm hown'
       clear q1 q2 hb2 hown' hgrow HP hlit hsz)
    | go_skip | go_guarded | go_step)
  go_ret
  exact ⟨rfl, Q1.out, Q2.out⟩
end Go.Proofs.YtoigpbajefkpoaaGreatDoor

set_option linter.unusedVariables false
set_option linter.unusedSimpArgs false
namespace Go.Proofs.YtoigpbajefkpoaaGreatDoor
open Go Go.RowKit

set_option maxHeartbeats 2000000 in
set_option maxRecDepth 100000 in
theorem pTold_any (B b : Nat) (tp : Value) (l : List UInt8) (w : World) (h : PrS w B b tp l) (hBw : B ≤ w.heap.size) :
  Calls Tryz.prog 64 #[bp1 b] w fun e w' => e = .returned (strV l) ∧ Kw B b w w' := by
 obtain ⟨hB, a, v, hbk, _, hown, hnil⟩ := h
 have mixed : Tryz.prog.follows .mixedOrders = true := by kernel_rfl
 by_cases hl : l = []
 ·
  subst hl
  have hv := hnil rfl
  subst hv
  have hUS : ∀ (W : World) (q : Option Addr), (Builtin.unsafeString_ #[156, 3] 9 #[.pointer q, .int .i64 0]).run Tryz.prog W = .ok (.string .empty) W := fun W q => Lib.run_unsafeString_none W _ _ _ q
  have c1 : w.drew.cell? ⟨b, 2, none⟩ = some (.slice none 0 0) := hbk.readT (Below.refl _ _) 2 rfl
  have hSD : (Builtin.unsafeSliceData_ #[91] 156 #[.slice none 0 0]).run Tryz.prog w.drew = .ok (.pointer none) w.drew := rfl
  clear hbk hown hnil
  go_enter Tryz.func64, Tryz.ntmps64
  go_wp2
  go_region_o
  all_goals (go_wp2; go_ret; exact ⟨rfl, Below.drew (Below.refl B w), (Lib.OthersKept.refl U8 (some b) w).drew⟩)
 ·
  have hl0 : l.length ≠ 0 := by simpa using hl
  obtain ⟨g, cap, cur, rfl, hbg, hg, hnc, hcm, hcs, htake⟩ : ∃ g cap cur, v = .slice (some ⟨g, 0, none⟩) l.length cap ∧ B ≤ g ∧ w.heap[g]? = some (.cells cur U8 (0, 0)) ∧ l.length ≤ cap ∧ cap ≤ maxLen ∧ cur.size = cap * 1 ∧ cur.toList.take (l.length * 1) = Lib.byteCells l := by
   rcases hown.2 with ⟨_, hz⟩ | ⟨g, cap, cur, hv, r⟩
   ·
    exact absurd hz hl0
   ·
    exact ⟨g, cap, cur, hv, r⟩
  have c1 : w.drew.cell? ⟨b, 2, none⟩ = some (.slice (some ⟨g, 0, none⟩) l.length cap) := hbk.readT (Below.refl _ _) 2 rfl
  have hSD : (Builtin.unsafeSliceData_ #[91] 156 #[.slice (some ⟨g, 0, none⟩) l.length cap]).run Tryz.prog w.drew = .ok (.pointer (some ⟨g, 0, none⟩)) w.drew :=
   Lib.run_unsafeSliceData_row _ _ _ _ _ _ (by omega)
  have hUS : (Builtin.unsafeString_ #[156, 3] 9 #[.pointer (some ⟨g, 0, none⟩), .int .i64 l.length]).run Tryz.prog w.drew = .ok (.string ⟨l.toArray⟩) (w.drew.freeze ⟨g, 0, none⟩ l.length) := by
   refine Lib.run_unsafeString_row w.drew 156 3 9 5 Tryz.underlying156 (by kernel_rfl) g cur.size (by have hg' : w.drew.heap[g]? = some (.cells cur U8 (0, 0)) := hg; simp [World.shape?, hg']) l hl (by omega) (by unfold maxLen at hcm; omega) ?_
   intro j x hx
   have := hown.cells (g := g) rfl j (.int .u8 x.toNat) (by simp [Lib.byteCells, hx])
   exact this
  clear hbk hown hnil htake
  go_enter Tryz.func64, Tryz.ntmps64
  go_wp2
  go_region_o
  all_goals (go_wp2; go_ret; exact ⟨rfl, Lib.below_freeze (Below.drew (Below.refl B w)) (p := ⟨g, 0, none⟩) hbg _, ((Lib.OthersKept.refl U8 (some b) w).drew).freeze ⟨g, 0, none⟩ _ ⟨cur, (0, 0), hg⟩⟩)

set_option maxRecDepth 100000 in
set_option maxHeartbeats 8000000 in
theorem small_any (n : Nat) (hn : n < 16) (w : World) : Calls Tryz.prog 132 #[.int .i64 (n : Int)] w fun e w' => e = .returned (strV (digitsL n)) ∧ w = w' := by
 have h : n = 0 ∨ n = 1 ∨ n = 2 ∨ n = 3 ∨ n = 4 ∨ n = 5 ∨ n = 6 ∨ n = 7 ∨ n = 8 ∨ n = 9 ∨ n = 10 ∨ n = 11 ∨ n = 12 ∨ n = 13 ∨ n = 14 ∨ n = 15 := by omega
 rcases h with rfl | rfl | rfl | rfl | rfl | rfl | rfl | rfl | rfl | rfl | rfl | rfl | rfl | rfl | rfl | rfl
 all_goals
  go_enter Tryz.func132, Tryz.ntmps132
  repeat (first | go_skip | go_guarded | go_step)
  go_ret
  exact ⟨by simp [digitsL]; try rfl, rfl⟩
end Go.Proofs.YtoigpbajefkpoaaGreatDoor

set_option linter.unusedVariables false
set_option linter.unusedSimpArgs false
namespace Go.Proofs.YtoigpbajefkpoaaGreatDoor
open Go Go.RowKit

theorem words_may {s : ByteArray} (h : mayB s = true) : ∃ k, wordsL (tb s) = ([(k, tb s, 0)], 0, 0) ∧ plainB s = decide (k = 1) ∧ tb s ≠ [] := by
 have h2 : (tb s).all okB = true ∧ 1 ≤ (tb s).length ∧ (tb s).length ≤ 32 := by
  unfold mayB at h
  simp only [Bool.and_eq_true, decide_eq_true_eq] at h
  exact ⟨h.1, by rw [tb_len]; exact h.2.1, by rw [tb_len]; exact h.2.2⟩
 obtain ⟨ha, h1, h32⟩ := h2
 have hne : tb s ≠ [] := by
  intro e
  rw [e] at h1
  simp at h1
 have hl : letN (tb s) = (tb s).length := by
  have key : ∀ (q : List UInt8), q.all okB = true → q.takeWhile okB = q := by
   intro q
   induction q with
   | nil => intro _; rfl
   | cons c r ih =>
    intro hq
    simp only [List.all_cons, Bool.and_eq_true] at hq
    rw [List.takeWhile_cons, hq.1, if_pos rfl, ih hq.2]
  unfold letN
  rw [key _ ha]
 have hw : wordsL (tb s) = ([(kindL (tb s), tb s, 0)], 0, 0) := by
  cases hs : tb s with
  | nil => exact absurd hs hne
  | cons c r =>
   have hc : okB c = true := List.all_eq_true.1 ha c (by rw [hs]; simp)
   rw [hs] at hl h1 h32
   have hz : blN false (c :: r) = 0 := by rw [blN, if_neg (frontless hc).2, (frontless hc).1]; rfl
   have hwn : wordN (c :: r) = (kindL (c :: r), (c :: r).length) := by
    rw [wordN_let (markN_ok hc r), if_neg (by rw [hl]; omega), hl, List.take_length]
   refine wordsL_ok (by omega) ?_
   rw [lexG_word (l1 := c :: r) (k := kindL (c :: r)) (n := (c :: r).length) (by rw [hz]; rfl) hwn (by simp), hz, List.take_length, List.drop_length, lexG_end rfl]
 refine ⟨kindL (tb s), hw, ?_, hne⟩
 unfold plainB
 rw [hw]
 simp
set_option maxRecDepth 100000 in
set_option maxHeartbeats 4000000 in
theorem fmtI_any (n : Nat) (hn : n < 16) (w : World) : Calls Tryz.prog 130 #[.int .u64 (n : Int), .int .i64 10] w fun e w' => e = .returned (strV (digitsL n)) ∧ w = w' := by
 have hd : decide ((n : Int) < 100) = true := by simp; omega
 have hw : IntKind.i64.wrap (n : Int) = (n : Int) := by rw [IntKind.wrap_i64] <;> omega
 go_enter Tryz.func130, Tryz.ntmps130
 repeat (first | go_skip | go_guarded | go_step)
 refine (small_any n hn w).mono ?_
 rintro e w' ⟨rfl, rfl⟩
 dsimp only
 repeat (first | go_skip | go_guarded | go_step)
 go_ret
 exact ⟨rfl, rfl⟩
set_option maxRecDepth 100000 in
theorem fmt_any (n : Nat) (hn : n < 16) (w : World) : Calls Tryz.prog 122 #[.int .u64 (n : Int), .int .i64 10] w fun e w' => e = .returned (strV (digitsL n)) ∧ w = w' := by
 go_enter Tryz.func122, Tryz.ntmps122
 repeat (first | go_skip | go_guarded | go_step)
 refine (fmtI_any n hn w).mono ?_
 rintro e w' ⟨rfl, rfl⟩
 dsimp only
 repeat (first | go_skip | go_guarded | go_step)
 go_ret
 exact ⟨rfl, rfl⟩
set_option maxRecDepth 100000 in
set_option maxHeartbeats 4000000 in
theorem isName_any (s : ByteArray) (hm : mayB s = true) (w : World) : Calls Tryz.prog 129 #[sv s] w fun e w' => e = .returned (.bool (plainB s)) ∧ Below w.heap.size w w' := by
 have hsz : s.size ≤ 32 := by
  unfold mayB at hm
  simp only [Bool.and_eq_true, decide_eq_true_eq] at hm
  exact hm.2.2
 obtain ⟨k, hk, hp, _⟩ := words_may hm
 have HK := Lib.hid hk
 have HP := Lib.hid hp
 clear hm hk hp
 go_enter Tryz.func129, Tryz.ntmps129
 repeat (first | go_skip | go_guarded | go_step)
 refine (words_any s w (by omega)).mono ?_
 rintro e w1 ⟨A, m, c, ws, y, z, rfl, ho, hb, hw⟩
 rw [HK.out] at hw
 simp only [Prod.mk.injEq] at hw
 obtain ⟨rfl, rfl, rfl⟩ := hw
 obtain rfl : m = 1 := by have := (Rd.ofOwn ho).1; rw [wd_flat] at this; simp at this; omega
 obtain ⟨b, rfl, _, hbl, _, hwr⟩ := WR.ofOwn (n := 0) ho
 obtain ⟨e0, _, _⟩ := hwr.2 0 _ rfl
 have e0 : w1.cell? ⟨b, 0, none⟩ = some (.int .u8 (k : Int)) := e0
 have HB := Lib.hid hb
 clear ho hbl hwr hb
 dsimp only
 by_cases h1 : k = 1
 ·
  have hq : ((k : Int) == 1) = true := by rw [h1]; rfl
  have HQ := Lib.hid (show plainB s = true by rw [HP.out]; simp [h1])
  clear h1
  repeat (first | go_skip | go_guarded | go_step)
  go_ret
  rw [HQ.out]
  exact ⟨rfl, HB.out⟩
 ·
  have hq : ((k : Int) == 1) = false := by simp; omega
  have HQ := Lib.hid (show plainB s = false by rw [HP.out]; simp [h1])
  clear h1
  repeat (first | go_skip | go_guarded | go_step)
  go_ret
  rw [HQ.out]
  exact ⟨rfl, HB.out⟩
/-- The table that the printer reads. -/
structure PrT (w : World) (B gt : Nat) (Ft : Nat → Prop) (l0 : List ByteArray) : Prop where
 tab : Tb w gt Ft l0
 old : ∀ k, Ft k → k < B
 good : Good 4096 l0
theorem PrT.kw {w w' : World} {B b gt : Nat} {Ft : Nat → Prop} {l0 : List ByteArray} (h : PrT w B gt Ft l0) (hk : Kw B b w w') : PrT w' B gt Ft l0 :=
 ⟨h.tab.turn (G := fun k => B ≤ k) (Turn.ofBelowB hk.below (fun k h _ => h)) (fun k hk e => by have := h.old k hk; omega), h.old, h.good⟩
theorem PrT.later {w w' : World} {B gt : Nat} {Ft : Nat → Prop} {l0 : List ByteArray} (h : PrT w B gt Ft l0) (hb : Below w.heap.size w w') : PrT w' B gt Ft l0 := ⟨h.tab.later hb, h.old, h.good⟩
abbrev tpV (gt : Nat) : Value := .pointer (some ⟨gt, 0, none⟩)
/-- How a step of the printer ends: x is written, or there is nothing to write for it. -/
def PrE (B b gt : Nat) (l x : List UInt8) (ok : Prop) (w : World) (e : Ending) (w' : World) : Prop :=
 Kw B b w w' ∧ ((ok ∧ e = .returned (.tuple #[]) ∧ PrS w' B b (tpV gt) (l ++ x)) ∨ (¬ ok ∧ e = pnc (4, 0)))
section
variable {B b gt : Nat} {Ft : Nat → Prop} {l0 : List ByteArray} {l : List UInt8} {w : World}
theorem named_len (h : Good 4096 l0) (n : Nat) : (namedL l0 n).length ≤ 32 := by
 unfold namedL
 split
 ·
  rename_i s hs
  split
  ·
   have := h.may s (List.mem_of_getElem? hs)
   unfold mayB at this
   simp only [Bool.and_eq_true, decide_eq_true_eq] at this
   rw [tb_len]
   omega
  ·
   simp
 ·
  simp
set_option maxRecDepth 100000 in
set_option maxHeartbeats 4000000 in
theorem pname_any (n : Nat) (hn : n < 4294967296) (h : PrS w B b (tpV gt) l) (ht : PrT w B gt Ft l0) (hBw : B ≤ w.heap.size) (hl : l.length ≤ 100000000000) :
  Calls Tryz.prog 120 #[.pointer (some ⟨b, 0, none⟩), .int .u32 (n : Int)] w fun e w' => PrE B b gt l (namedL l0 n) (namedL l0 n ≠ []) w e w' := by
 obtain ⟨a, v, hbk⟩ := h.bk
 have c0 := hbk.readT (Below.refl _ _) 0 rfl
 have HS := Lib.hid h
 have HT := Lib.hid ht
 clear h ht hbk
 go_enter Tryz.func120, Tryz.ntmps120
 repeat (first | go_skip | go_guarded | go_step)
 refine (tName gt Ft l0 n w HT.out.tab hn).mono ?_
 rintro e w' ⟨rfl, rfl⟩
 by_cases hlt : n < l0.length
 ·
  obtain ⟨s, hs⟩ : ∃ s, l0[n]? = some s := ⟨_, List.getElem?_eq_getElem hlt⟩
  have hgd : l0.getD n ⟨#[]⟩ = s := by rw [List.getD_eq_getElem?_getD, hs]; rfl
  rw [hgd, decide_eq_true hlt]
  have HM := Lib.hid (HT.out.good.may s (List.mem_of_getElem? hs))
  have HSN := Lib.hid hs
  clear hs hgd hlt
  dsimp only
  repeat (first | go_skip | go_guarded | go_step)
  refine (isName_any s HM.out w).mono ?_
  rintro e w1 ⟨rfl, hb1⟩
  have HB1 := Lib.hid hb1
  clear hb1
  obtain ⟨pb, hpb⟩ : ∃ pb, pb = plainB s := ⟨_, rfl⟩
  rw [← hpb]
  cases pb with
  | false =>
   have HN := Lib.hid (show namedL l0 n = [] by unfold namedL; rw [HSN.out]; dsimp only; rw [← hpb]; rfl)
   clear hpb
   dsimp only
   repeat (first | go_skip | go_guarded | go_step)
   exact ⟨rfl, Kw.ofBelow HB1.out hBw, .inr ⟨fun e => e HN.out, rfl⟩⟩
  | true =>
   have HN := Lib.hid (show namedL l0 n = tb s by unfold namedL; rw [HSN.out]; dsimp only; rw [← hpb]; rfl)
   obtain ⟨k, _, _, hne⟩ := words_may HM.out
   have HNE := Lib.hid hne
   have HSZ := Lib.hid (show s.size ≤ 32 by
    have := HM.out
    unfold mayB at this
    simp only [Bool.and_eq_true, decide_eq_true_eq] at this
    exact this.2.2)
   clear hpb hne
   dsimp only
   repeat (first | go_skip | go_guarded | go_step)
   refine (pString_any B b (tpV gt) l s w1 (HS.out.later HB1.out) (by have := HSZ.out; omega) (by have := HB1.out.size; omega) HNE.out).mono ?_
   rintro e w2 ⟨rfl, hs2, hk2⟩
   have HS2 := Lib.hid hs2
   have HK2 := Lib.hid ((Kw.ofBelow HB1.out hBw).trans hk2)
   clear hs2 hk2
   dsimp only
   repeat (first | go_skip | go_guarded | go_step)
   go_end0
   exact ⟨HK2.out, .inl ⟨by rw [HN.out]; exact HNE.out, rfl, by rw [HN.out]; exact HS2.out⟩⟩
 ·
  rw [decide_eq_false hlt]
  have HN := Lib.hid (show namedL l0 n = [] by unfold namedL; rw [List.getElem?_eq_none (by omega)])
  clear hlt
  obtain ⟨s, hs⟩ : ∃ s, s = l0.getD n ⟨#[]⟩ := ⟨_, rfl⟩
  rw [← hs]
  clear hs
  dsimp only
  repeat (first | go_skip | go_guarded | go_step)
  exact ⟨rfl, Kw.refl _ _ _, .inr ⟨fun e => e HN.out, rfl⟩⟩
end
end Go.Proofs.YtoigpbajefkpoaaGreatDoor

set_option linter.unusedVariables false
set_option linter.unusedSimpArgs false
namespace Go.Proofs.YtoigpbajefkpoaaGreatDoor
open Go Go.RowKit

theorem digits16P {n : Nat} (h : n < 16) : (digitsL n).length ≤ 2 ∧ digitsL n ≠ [] := by
 have h : n = 0 ∨ n = 1 ∨ n = 2 ∨ n = 3 ∨ n = 4 ∨ n = 5 ∨ n = 6 ∨ n = 7 ∨ n = 8 ∨ n = 9 ∨ n = 10 ∨ n = 11 ∨ n = 12 ∨ n = 13 ∨ n = 14 ∨ n = 15 := by omega
 rcases h with rfl | rfl | rfl | rfl | rfl | rfl | rfl | rfl | rfl | rfl | rfl | rfl | rfl | rfl | rfl | rfl <;> simp [digitsL]
theorem tm_flat (L : List Tm) : (L.flatMap tmC).length = L.length * 2 := by
 induction L with
 | nil => rfl
 | cons x L ih => rw [List.flatMap_cons, List.length_append, ih, List.length_cons]; show 2 + _ = _; omega
section
variable {B b gt : Nat} {Ft : Nat → Prop} {l0 : List ByteArray} {l : List UInt8} {w : World}
theorem term_len (h : Good 4096 l0) (t : Tm) (hm : t.1 = true → t.2.toNat < 16) : (termL l0 t).length ≤ 40 := by
 unfold termL
 split
 ·
  rename_i h1
  have := (digits16P (hm h1)).1
  simp
  omega
 ·
  have := named_len h t.2.toNat
  omega

set_option maxRecDepth 100000 in
set_option maxHeartbeats 8000000 in
theorem pterm_any (tm : Tm) (hm : tm.1 = true → tm.2.toNat < 16) (h : PrS w B b (tpV gt) l) (ht : PrT w B gt Ft l0) (hBw : B ≤ w.heap.size) (hl : l.length ≤ 100000000000) :
  Calls Tryz.prog 108 #[.pointer (some ⟨b, 0, none⟩), .agg #[.bool tm.1, nv tm.2]] w fun e w' => PrE B b gt l (termL l0 tm) (termL l0 tm ≠ []) w e w' := by
 have HS0 := Lib.hid h
 have HT0 := Lib.hid ht
 clear h ht
 go_enter Tryz.func108, Tryz.ntmps108
 go_upto_region 1 with (fail)
 obtain ⟨U, a0, hU, hub, ha0, hb0⟩ : ∃ U a0, U = w.alloc (.cells #[.bool tm.1, nv tm.2] 46) ∧ Below w.heap.size w U ∧ w.heap.size = a0 ∧ Bk U a0 46 [.bool tm.1, nv tm.2] := ⟨_, _, rfl, (Below.refl _ _).alloc (Nat.le_refl _) _, rfl, Bk.new w _ _⟩
 rw [← hU, ha0]
 have k0 := hb0.readT (Below.refl _ _) 0 rfl
 have k1 := hb0.readT (Below.refl _ _) 1 rfl
 have HS := Lib.hid (HS0.out.later hub)
 have HT := Lib.hid (HT0.out.later hub)
 have HKU := Lib.hid (Kw.ofBelow hub hBw : Kw B b w U)
 have HBU := Lib.hid (show B ≤ U.heap.size by have := hub.size; omega)
 have HB0 := Lib.hid hb0
 have HNE := Lib.hid (show a0 ≠ b by have := HS0.out.lt; omega)
 obtain ⟨tv, tn⟩ := tm
 dsimp only at k0 k1 hm
 clear hU hub ha0 hb0 HS0 HT0
 cases tv with
 | false =>
  have HN := Lib.hid (show termL l0 (false, tn) = namedL l0 tn.toNat from rfl)
  repeat (first | go_skip | go_guarded | go_step)
  refine (pname_any tn.toNat (UInt32.toNat_lt tn) HS.out HT.out HBU.out hl).mono ?_
  rintro e w1 ⟨hk, ⟨hok, rfl, hs⟩ | ⟨hno, rfl⟩⟩
  ·
   have HS1 := Lib.hid hs
   have HK1 := Lib.hid (HKU.out.trans hk)
   have HOK := Lib.hid hok
   clear hs hk hok
   dsimp only
   repeat (first | go_skip | go_guarded | go_step)
   go_end0
   exact ⟨HK1.out, .inl ⟨by rw [HN.out]; exact HOK.out, rfl, by rw [HN.out]; exact HS1.out⟩⟩
  ·
   exact ⟨rfl, HKU.out.trans hk, .inr ⟨by rw [HN.out]; exact hno, rfl⟩⟩
 | true =>
  have h16 := hm rfl
  have HN := Lib.hid (show termL l0 (true, tn) = 88 :: digitsL tn.toNat from rfl)
  have HLEN := Lib.hid (show l.length ≤ 100000000000 from hl)
  repeat (first | go_skip | go_guarded | go_step)
  refine (pByte_any B b 88 (tpV gt) l U HS.out (by omega) HBU.out).mono ?_
  rintro e w1 ⟨rfl, hs, hk⟩
  have HS1 := Lib.hid hs
  have HK1 := Lib.hid (HKU.out.trans hk)
  have HB1 := Lib.hid (hk.bk HB0.out HNE.out (by decide))
  have HBW := Lib.hid (show B ≤ w1.heap.size by have := hk.below.size; have := HBU.out; omega)
  have q1 := HB1.out.readT (Below.refl _ _) 1 rfl
  have hwr : IntKind.u64.wrap (tn.toNat : Int) = (tn.toNat : Int) := by rw [IntKind.wrap_u64] <;> omega
  obtain ⟨n, hn⟩ : ∃ n, n = tn.toNat := ⟨_, rfl⟩
  have q1' : w1.cell? ⟨a0, 1, none⟩ = some (.int .u32 (n : Int)) := by rw [hn]; exact q1
  rw [← hn] at h16 hwr
  have HN2 := Lib.hid (show termL l0 (true, tn) = 88 :: digitsL n by rw [HN.out, hn])
  have HNN := Lib.hid hn
  clear hs hk k0 k1 q1 hn HN
  dsimp only
  go_upto_region 4 with (fail)
  refine wp_region_held_drew (S := fun V => V.cell? ⟨a0, 1, none⟩ = some (.int .u32 (n : Int))) (by kernel_rfl) ?_ (fun hHeld => ?_)
  ·
   exact q1'
  refine wpAnyH_take (i := 0) (oi := ?p1) (v := ?v1) ?a1 (by kernel_rfl) ?b1 ?c1 ?q1 ?y1 hHeld ?z1
  case a1 => (simp only [List.getElem?_toArray, List.getElem?_cons_succ, List.getElem?_cons_zero]; exact rfl)
  case b1 => kernel_rfl
  case c1 => kernel_rfl
  case q1 => exact fun _ _ _ h => h
  case y1 =>
   refine Or.inl ⟨by rfl, ?_⟩
   intro V hSV
   go_simp
   (try with_reducible rfl)
  try simp only [Act.put, List.setIfInBounds_toArray, List.set_cons_zero, List.set_cons_succ]
  refine wpAnyH_take (i := 1) (oi := ?p2) (v := ?v2) ?a2 (by kernel_rfl) ?b2 ?c2 ?q2 ?y2 hHeld ?z2
  case a2 => (simp only [List.getElem?_toArray, List.getElem?_cons_succ, List.getElem?_cons_zero]; exact rfl)
  case b2 => kernel_rfl
  case c2 => kernel_rfl
  case q2 => exact fun _ _ _ h => h
  case y2 =>
   refine Or.inl ⟨by rfl, ?_⟩
   intro V hSV
   go_simp
   (try with_reducible rfl)
  try simp only [Act.put, List.setIfInBounds_toArray, List.set_cons_zero, List.set_cons_succ]
  refine wpAnyH_take (i := 2) (oi := ?p3) (v := ?v3) ?a3 (by kernel_rfl) ?b3 ?c3 ?q3 ?y3 hHeld ?z3
  case a3 => (simp only [List.getElem?_toArray, List.getElem?_cons_succ, List.getElem?_cons_zero]; exact rfl)
  case b3 => kernel_rfl
  case c3 => kernel_rfl
  case q3 => exact fun _ _ _ h => h
  case y3 =>
   refine Or.inl ⟨by rfl, ?_⟩
   intro V hSV
   go_simp
   (try with_reducible rfl)
  try simp only [Act.put, List.setIfInBounds_toArray, List.set_cons_zero, List.set_cons_succ]
  refine wpAnyH_take (i := 3) (oi := ?p4) (v := ?v4) ?a4 (by kernel_rfl) ?b4 ?c4 ?q4 ?y4 hHeld ?z4
  case a4 => (simp only [List.getElem?_toArray, List.getElem?_cons_succ, List.getElem?_cons_zero]; exact rfl)
  case b4 => kernel_rfl
  case c4 => kernel_rfl
  case q4 => exact fun _ _ _ h => h
  case y4 =>
   refine Or.inl ⟨by rfl, ?_⟩
   intro V hSV
   go_simp
   (try with_reducible rfl)
  try simp only [Act.put, List.setIfInBounds_toArray, List.set_cons_zero, List.set_cons_succ]
  refine wpAnyH_take (i := 4) (oi := ?p5) (v := ?v5) ?a5 (by kernel_rfl) ?b5 ?c5 ?q5 ?y5 hHeld ?z5
  case a5 => (simp only [List.getElem?_toArray, List.getElem?_cons_succ, List.getElem?_cons_zero]; exact rfl)
  case b5 => kernel_rfl
  case c5 => kernel_rfl
  case q5 => exact fun _ _ _ h => h
  case y5 =>
   refine Or.inl ⟨by rfl, ?_⟩
   intro V hSV
   go_simp
   (try with_reducible rfl)
  try simp only [Act.put, List.setIfInBounds_toArray, List.set_cons_zero, List.set_cons_succ]
  refine wpAnyH_take (i := 5) (oi := ?p6) (v := ?v6) ?a6 (by kernel_rfl) ?b6 ?c6 ?q6 ?y6 hHeld ?z6
  case a6 => (simp only [List.getElem?_toArray, List.getElem?_cons_succ, List.getElem?_cons_zero]; exact rfl)
  case b6 => kernel_rfl
  case c6 => kernel_rfl
  case q6 => exact fun _ _ _ h => h
  case y6 =>
   refine Or.inl ⟨by rfl, ?_⟩
   intro V hSV
   go_simp
   (try with_reducible rfl)
  try simp only [Act.put, List.setIfInBounds_toArray, List.set_cons_zero, List.set_cons_succ]
  refine wpAnyH_ready (rs := [6]) (by kernel_rfl) (by simp) ?_
  refine AllReadyH.cons (o := ?od7) ?hod7 (fun K hK => ?kd7) ?md7
  case hod7 => (simp only [List.getElem?_toArray, List.getElem?_cons_succ, List.getElem?_cons_zero]; exact rfl)
  case kd7 =>
   go_simp
   refine (fmt_any n h16 _).mono ?_
   rintro e w2 ⟨rfl, rfl⟩
   (try dsimp only)
   refine hK.out _ _ ?_ (fun hHeld => ?_)
   ·
    exact q1'
   clear hK K
   try simp only [Act.put, List.setIfInBounds_toArray, List.set_cons_zero, List.set_cons_succ]
   refine wpAnyH_ready (rs := [7]) (by kernel_rfl) (by simp) ?_
   refine AllReadyH.cons (o := ?od8) ?hod8 (fun K hK => ?kd8) ?md8
   case hod8 => (simp only [List.getElem?_toArray, List.getElem?_cons_succ, List.getElem?_cons_zero]; exact rfl)
   case kd8 =>
    go_simp
    refine (pString_any B b (tpV gt) (l ++ [88]) ⟨(digitsL n).toArray⟩ w1.drew (HS1.out.later (belowDrews (Below.refl _ w1) 1)) (by have := (digits16P h16).1; have := HLEN.out; simp [ByteArray.size]; omega) HBW.out (digits16P h16).2).mono ?_
    rintro e w3 ⟨rfl, hs3, hk3⟩
    have HS3 := Lib.hid hs3
    have HK3 := Lib.hid ((HK1.out.later (belowDrews (Below.refl _ w1) 1) HBW.out).trans hk3)
    have q3 : w3.cell? ⟨a0, 1, none⟩ = some (.int .u32 (n : Int)) := by
     have hb : Bk w1.drew a0 46 [.bool true, nv tn] := HB1.out
     have := (hk3.bk hb HNE.out (by decide)).readT (Below.refl _ _) 1 rfl
     rw [HNN.out]
     exact this
    clear hs3 hk3
    (try dsimp only)
    refine hK.out _ _ ?_ (fun hHeld => ?_)
    ·
     exact q3
    clear hK K
    try simp only [Act.put, List.setIfInBounds_toArray, List.set_cons_zero, List.set_cons_succ]
    refine wpAnyH_done (by kernel_rfl) ?_ _
    clear hHeld
    repeat (first | go_skip | go_guarded | go_step)
    go_end0
    exact ⟨HK3.out, .inl ⟨by rw [HN2.out]; simp, rfl, by rw [HN2.out]; have := HS3.out; rw [List.append_assoc] at this; exact this⟩⟩
   exact AllReadyH.nil
  exact AllReadyH.nil

set_option maxRecDepth 100000 in
set_option maxHeartbeats 8000000 in
theorem between_any (i : Nat) (s : ByteArray) (h : PrS w B b (tpV gt) l) (hBw : B ≤ w.heap.size) (hl : l.length ≤ 100000000000) (hs : tb s ≠ []) (hz : s.size ≤ 100) :
  Calls Tryz.prog 89 #[.pointer (some ⟨b, 0, none⟩), .int .i64 (i : Int), sv s] w fun e w' => e = .returned (.tuple #[]) ∧ PrS w' B b (tpV gt) (l ++ (if i = 0 then tb s else [44, 32])) ∧ Kw B b w w' := by
 have HS := Lib.hid h
 have HNS := Lib.hid hs
 have HZ := Lib.hid (show l.length + s.size ≤ 140737488355328 by omega)
 have HZ2 := Lib.hid (show l.length + (⟨#[44, 32]⟩ : ByteArray).size ≤ 140737488355328 by have : (⟨#[44, 32]⟩ : ByteArray).size = 2 := rfl; omega)
 clear h hs hz hl
 go_enter Tryz.func89, Tryz.ntmps89
 by_cases hi : i = 0
 ·
  have hd : decide ((0 : Int) < (i : Int)) = false := by simp; omega
  have hd2 : decide (0 < i) = false := by simp; omega
  rw [if_pos hi]
  clear hi
  repeat (first | go_skip | go_guarded | go_step)
  refine (pString_any B b (tpV gt) l s w HS.out HZ.out hBw HNS.out).mono ?_
  rintro e w1 ⟨rfl, h1, h2⟩
  have H1 := Lib.hid h1
  have H2 := Lib.hid h2
  clear h1 h2
  dsimp only
  repeat (first | go_skip | go_guarded | go_step)
  go_end0
  exact ⟨rfl, H1.out, H2.out⟩
 ·
  have hd : decide ((0 : Int) < (i : Int)) = true := by simp; omega
  have hd2 : decide (0 < i) = true := by simp; omega
  rw [if_neg hi]
  clear hi
  repeat (first | go_skip | go_guarded | go_step)
  refine (pString_any B b (tpV gt) l ⟨#[44, 32]⟩ w HS.out HZ2.out hBw (by decide)).mono ?_
  rintro e w1 ⟨rfl, h1, h2⟩
  have H1 := Lib.hid h1
  have H2 := Lib.hid h2
  clear h1 h2
  dsimp only
  repeat (first | go_skip | go_guarded | go_step)
  go_end0
  exact ⟨rfl, H1.out, H2.out⟩
end
/-- The arguments so far, without what closes them. -/
def argsP (names : List ByteArray) : List Tm → List UInt8
 | [] => []
 | t :: l => 40 :: (termL names t ++ l.flatMap (fun u => [44, 32] ++ termL names u))
theorem argsP_snoc (names : List ByteArray) (l : List Tm) (t : Tm) : argsP names (l ++ [t]) = argsP names l ++ (if l.length = 0 then [40] else [44, 32]) ++ termL names t := by
 cases l with
 | nil => simp [argsP]
 | cons x l => simp [argsP]
theorem argsL_P (names : List ByteArray) (l : List Tm) : argsL names l = if l.length = 0 then [] else argsP names l ++ [41] := by
 cases l with
 | nil => simp [argsL]
 | cons x l => simp [argsL, argsP]
def atomT (names : List ByteArray) (a : AtL) : List UInt8 := namedL names a.1.toNat ++ argsL names a.2
def atomK (names : List ByteArray) (a : AtL) : Prop := namedL names a.1.toNat ≠ [] ∧ ∀ t ∈ a.2, termL names t ≠ []
section
variable {B b gt : Nat} {Ft : Nat → Prop} {l0 : List ByteArray} {l : List UInt8} {w : World}
theorem argsP_len (h : Good 4096 l0) : ∀ (L : List Tm), (∀ t ∈ L, t.1 = true → t.2.toNat < 16) → (argsP l0 L).length ≤ 50 * L.length
 | [], _ => by simp [argsP]
 | x :: L, hm => by
  have h1 := term_len h x (hm x (by simp))
  have h2 : (L.flatMap (fun u => [44, 32] ++ termL l0 u)).length ≤ 50 * L.length := by
   have : ∀ (q : List Tm), (∀ t ∈ q, t.1 = true → t.2.toNat < 16) → (q.flatMap (fun u => [44, 32] ++ termL l0 u)).length ≤ 50 * q.length := by
    intro q
    induction q with
    | nil => intro _; simp
    | cons y q ih =>
     intro hq
     have h3 := term_len h y (hq y (by simp))
     have h4 := ih (fun t ht => hq t (by simp [ht]))
     rw [List.flatMap_cons, List.length_append]
     have h5 : ([44, 32] ++ termL l0 y).length = 2 + (termL l0 y).length := by rw [List.length_append]; rfl
     have h6 : (y :: q).length = q.length + 1 := rfl
     omega
   exact this L (fun t ht => hm t (by simp [ht]))
  unfold argsP
  rw [List.length_cons, List.length_append, List.length_cons]
  omega
end
end Go.Proofs.YtoigpbajefkpoaaGreatDoor

set_option linter.unusedVariables false
set_option linter.unusedSimpArgs false
namespace Go.Proofs.YtoigpbajefkpoaaGreatDoor
open Go Go.RowKit

section
variable {B b gt : Nat} {Ft : Nat → Prop} {l0 : List ByteArray} {l : List UInt8} {w : World}

set_option maxRecDepth 100000 in
set_option maxHeartbeats 8000000 in
theorem patom_any (p : UInt32) (A : Option Addr) (m c : Nat) (L : List Tm) (hr : RdT w B A m L) (hm : ∀ t ∈ L, t.1 = true → t.2.toNat < 16) (hm6 : L.length ≤ 6) (h : PrS w B b (tpV gt) l) (ht : PrT w B gt Ft l0) (hBw : B ≤ w.heap.size) (hl : l.length ≤ 90000000000) :
  Calls Tryz.prog 109 #[.pointer (some ⟨b, 0, none⟩), .agg #[nv p, .slice A m c]] w fun e w' => PrE B b gt l (atomT l0 (p, L)) (atomK l0 (p, L)) w e w' := by
 have HLN := Lib.hid (show L.length = m by have := hr.1; unfold tmCs at this; rw [tm_flat] at this; omega)
 have HR := Lib.hid hr
 have HS0 := Lib.hid h
 have HT0 := Lib.hid ht
 have HMM := Lib.hid hm
 have hm6' : m ≤ 6 := by rw [← HLN.out]; exact hm6
 clear h ht hr hm hm6
 go_enter Tryz.func109, Tryz.ntmps109
 go_upto_region 1 with (fail)
 obtain ⟨U, a0, hU, hub, ha0, hb0⟩ : ∃ U a0, U = w.alloc (.cells #[nv p, .slice A m c] 49) ∧ Below w.heap.size w U ∧ w.heap.size = a0 ∧ Bk U a0 49 [nv p, .slice A m c] := ⟨_, _, rfl, (Below.refl _ _).alloc (Nat.le_refl _) _, rfl, Bk.new w _ _⟩
 rw [← hU, ha0]
 have k0 := hb0.readT (Below.refl _ _) 0 rfl
 have HS := Lib.hid (HS0.out.later hub)
 have HT := Lib.hid (HT0.out.later hub)
 have HKU := Lib.hid (Kw.ofBelow hub hBw : Kw B b w U)
 have HBU := Lib.hid (show B ≤ U.heap.size by have := hub.size; omega)
 have HB0 := Lib.hid hb0
 have HNE := Lib.hid (show a0 ≠ b by have := HS0.out.lt; omega)
 clear hU hub ha0 hb0
 repeat (first | go_skip | go_guarded | go_step)
 refine (pname_any p.toNat (UInt32.toNat_lt p) HS.out HT.out HBU.out (by omega)).mono ?_
 rintro e w1 ⟨hk, ⟨hok, rfl, hs⟩ | ⟨hno, rfl⟩⟩
 ·
  have HOK := Lib.hid hok
  have HS1 := Lib.hid hs
  have HK1 := Lib.hid (HKU.out.trans hk)
  have HB1 := Lib.hid (hk.bk HB0.out HNE.out (by decide))
  have k1 := HB1.out.readT (Below.refl _ _) 1 rfl
  have HNL := Lib.hid (named_len HT.out.good p.toNat)
  clear hok hs hk k0
  dsimp only
  repeat (first | go_skip | go_guarded | go_step)
  go_loopw [13] (fun q wr => ∃ i : Nat, i ≤ m ∧ q = .int .i64 (i : Int) ∧ PrS wr B b (tpV gt) (l ++ namedL l0 p.toNat ++ argsP l0 (L.take i)) ∧ Kw B b w wr ∧ Bk wr a0 49 [nv p, .slice A m c] ∧ (∀ t ∈ L.take i, termL l0 t ≠ [])) (fun q _ => m - (intOf q).toNat)
  case atStart => exact ⟨0, by omega, rfl, by simpa [argsP] using HS1.out, HK1.out, HB1.out, by simp⟩
  case round =>
   obtain ⟨i, hi, rfl, hs, hk, hb, hall⟩ := hrel
   have HS2 := Lib.hid hs
   have HK2 := Lib.hid hk
   have HB2 := Lib.hid hb
   have HALL := Lib.hid hall
   have HBW := Lib.hid (show B ≤ wr.heap.size by have := hk.below.size; omega)
   clear hs hk hb hall
   by_cases hlt : i < m
   ·
    have hci : (i : Int) < (m : Int) := by omega
    obtain ⟨x, hx⟩ : ∃ x, L[i]? = some x := ⟨_, List.getElem?_eq_getElem (by rw [HLN.out]; exact hlt)⟩
    obtain ⟨bb, oo, hA, hbb, hc⟩ := (HR.out.below HK2.out.below).2 (by omega)
    subst hA
    have e0 : wr.cell? ⟨bb, oo + i * 2, none⟩ = some (.bool x.1) := hc (i * 2 + 0) _ (by unfold tmCs; rw [flat_at tmC 2 (fun _ => rfl) hx 0 (by omega)]; rfl)
    have e1 : wr.cell? ⟨bb, oo + i * 2 + 1, none⟩ = some (nv x.2) := hc (i * 2 + 1) _ (by unfold tmCs; rw [flat_at tmC 2 (fun _ => rfl) hx 1 (by omega)]; rfl)
    have HX := Lib.hid hx
    have HTK := Lib.hid (show L.take (i + 1) = L.take i ++ [x] by rw [List.take_add_one, hx]; rfl)
    have HLT := Lib.hid (show (L.take i).length = i by rw [List.length_take, HLN.out]; omega)
    have HPL := Lib.hid (argsP_len HT0.out.good (L.take i) (fun t ht => HMM.out t (List.mem_of_mem_take ht)))
    have HXM := Lib.hid (HMM.out x (List.mem_of_getElem? hx))
    clear hx hc
    go_upto_region 5 with (fail)
    obtain ⟨V, a1, hV, hv, ha1, hb1⟩ : ∃ V a1, V = wr.alloc (.cells #[.bool x.1, nv x.2] 46) ∧ Below wr.heap.size wr V ∧ wr.heap.size = a1 ∧ Bk V a1 46 [.bool x.1, nv x.2] := ⟨_, _, rfl, (Below.refl _ _).alloc (Nat.le_refl _) _, rfl, Bk.new wr _ _⟩
    rw [← hV, ha1]
    have HS3 := Lib.hid (HS2.out.later hv)
    have HK3 := Lib.hid (HK2.out.later hv HBW.out)
    have HB3 := Lib.hid (HB2.out.later hv)
    have HV1 := Lib.hid hb1
    have HNE1 := Lib.hid (show a1 ≠ b by have := HS2.out.lt; omega)
    have HBV := Lib.hid (show B ≤ V.heap.size by have := hv.size; have := HBW.out; omega)
    clear hV hv ha1 hb1 e0 e1
    repeat (first | go_skip | go_guarded | go_step)
    refine (between_any i ⟨#[40]⟩ HS3.out HBV.out (by have := HNL.out; have := HPL.out; have := HLT.out; simp; omega) (by simp [tb]) (by decide)).mono ?_
    rintro e w4 ⟨rfl, hs4, hk4⟩
    have HS4 := Lib.hid hs4
    have HK4 := Lib.hid (HK3.out.trans hk4)
    have HB4 := Lib.hid (hk4.bk HB3.out HNE.out (by decide))
    have hv4 := hk4.bk HV1.out HNE1.out (by decide)
    have d0 := hv4.readT (Below.refl _ _) 0 rfl
    have d1 := hv4.readT (Below.refl _ _) 1 rfl
    have HBW4 := Lib.hid (show B ≤ w4.heap.size by have := hk4.below.size; have := HBV.out; omega)
    clear hs4 hk4 hv4
    dsimp only
    repeat (first | go_skip | go_guarded | go_step)
    refine (pterm_any x HXM.out HS4.out (HT0.out.kw HK4.out) HBW4.out (by have := HNL.out; have := HPL.out; have := HLT.out; simp; split <;> simp [tb] <;> omega)).mono ?_
    rintro e w5 ⟨hk, ⟨hok, rfl, hs⟩ | ⟨hno, rfl⟩⟩
    ·
     have HS5 := Lib.hid (show PrS w5 B b (tpV gt) (l ++ namedL l0 p.toNat ++ argsP l0 (L.take (i + 1))) by
      rw [HTK.out, argsP_snoc, HLT.out]
      have := hs
      simp only [List.append_assoc] at this ⊢
      exact this)
     have HK5 := Lib.hid (HK4.out.trans hk)
     have HB5 := Lib.hid (hk.bk HB4.out HNE.out (by decide))
     have HOK5 := Lib.hid hok
     clear hk hok hs d0 d1
     dsimp only
     repeat (first | go_skip | go_guarded | go_step)
     go_roundw
     case rel => exact ⟨i + 1, by omega, by go_num, HS5.out, HK5.out, HB5.out, fun t ht => by
      rw [HTK.out] at ht
      rcases List.mem_append.1 ht with h | h
      ·
       exact HALL.out t h
      ·
       rw [List.mem_singleton] at h
       rw [h]
       exact HOK5.out⟩
     case measure => simp [intOf] <;> omega
    ·
     exact ⟨rfl, HK4.out.trans hk, .inr ⟨fun e => hno (e.2 x (List.mem_of_getElem? HX.out)), rfl⟩⟩
   ·
    obtain rfl : i = m := by omega
    have HF := Lib.hid (show L.take i = L by rw [← HLN.out, List.take_length])
    have k1 := HB2.out.readT (Below.refl _ _) 1 rfl
    have HOKA := Lib.hid (show atomK l0 (p, L) from ⟨HOK.out, by have := HALL.out; rw [HF.out] at this; exact this⟩)
    have HPL := Lib.hid (argsP_len HT0.out.good L HMM.out)
    by_cases h0 : i = 0
    ·
     have hd : decide ((0 : Int) < (i : Int)) = false := by simp; omega
     have hd2 : decide (0 < i) = false := by simp; omega
     have HTX := Lib.hid (show l ++ atomT l0 (p, L) = l ++ namedL l0 p.toNat ++ argsP l0 (L.take i) by
      unfold atomT
      dsimp only
      rw [argsL_P, if_pos (by rw [HLN.out]; exact h0), HF.out, show L = [] from List.eq_nil_of_length_eq_zero (by rw [HLN.out]; exact h0)]
      simp [argsP])
     clear h0
     repeat (first | go_skip | go_guarded | go_step)
     go_end0
     exact ⟨HK2.out, .inl ⟨HOKA.out, rfl, by rw [HTX.out]; exact HS2.out⟩⟩
    ·
     have hd : decide ((0 : Int) < (i : Int)) = true := by simp; omega
     have hd2 : decide (0 < i) = true := by simp; omega
     have HTX := Lib.hid (show l ++ atomT l0 (p, L) = l ++ namedL l0 p.toNat ++ argsP l0 (L.take i) ++ [41] by
      unfold atomT
      dsimp only
      rw [argsL_P, if_neg (by rw [HLN.out]; exact h0), HF.out]
      simp)
     clear h0
     repeat (first | go_skip | go_guarded | go_step)
     refine (pByte_any B b 41 (tpV gt) _ wr HS2.out (by have := HNL.out; have := HPL.out; have := HLN.out; rw [HF.out]; simp; omega) HBW.out).mono ?_
     rintro e w6 ⟨rfl, hs, hk⟩
     have HS6 := Lib.hid hs
     have HK6 := Lib.hid (HK2.out.trans hk)
     clear hs hk
     dsimp only
     repeat (first | go_skip | go_guarded | go_step)
     go_end0
     exact ⟨HK6.out, .inl ⟨HOKA.out, rfl, by rw [HTX.out]; exact HS6.out⟩⟩
 ·
  exact ⟨rfl, HKU.out.trans hk, .inr ⟨fun e => hno e.1, rfl⟩⟩
end
end Go.Proofs.YtoigpbajefkpoaaGreatDoor

