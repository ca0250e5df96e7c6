/- Texts, packed: PcI PcJ PdT -/
import Derived.Test.YtoigpbajefkpoaaGreatDoorPxW
import Derived.Test.YtoigpbajefkpoaaGreatDoorPxS
import Derived.Test.YtoigpbajefkpoaaGreatDoorTie
import Derived.LaidHandle
import Derived.LaidLaws
import Derived.LaidMore
import Derived.Stop.Joined
import Derived.Stop.LaidErr
import Derived.Lib.LaidTab
set_option linter.unusedVariables false
set_option linter.unusedSimpArgs false
namespace Go.Proofs.YtoigpbajefkpoaaGreatDoor
open Go Go.RowKit

abbrev LPp : TypeId := 89
abbrev SRl : TypeId := 27
section
variable {B b gt : Nat} {Ft : Nat → Prop} {l0 : List ByteArray} {w : World}
set_option maxRecDepth 100000 in
set_option maxHeartbeats 4000000 in
theorem print1_any (pv lv : Nat) (A : Option Addr) (n c : Nat) (Q : List RlA) (rs : List Rl) (hp : Bk w pv LPp [.pointer (some ⟨b, 0, none⟩)]) (hl : Bk w lv SRl [.slice A n c]) (hr : RdRs w B A n Q rs) (hn : n ≤ 100000) (hsm : smallR rs) (h : PrS w B b (tpV gt) []) (ht : PrT w B gt Ft l0) (hBw : B ≤ w.heap.size) :
  Calls Tryz.prog 37 #[.pointer (some ⟨pv, 0, none⟩), .pointer (some ⟨lv, 0, none⟩)] w fun e w' =>
   Kw B b w w' ∧ (((printL l0 rs).2 = 0 ∧ e = .returned (strV (printL l0 rs).1)) ∨ ((printL l0 rs).2 ≠ 0 ∧ (printL l0 rs).1 = [] ∧ e = pnc ((printL l0 rs).2, 0))) := by
 have k0 := hp.readT (Below.refl _ _) 0 rfl
 have k1 := hl.readT (Below.refl _ _) 0 rfl
 have HR := Lib.hid hr
 have HSM := Lib.hid hsm
 have HS := Lib.hid h
 have HT := Lib.hid ht
 clear h ht hr hsm hp hl
 go_enter Tryz.func37, Tryz.ntmps37
 repeat (first | go_skip | go_guarded | go_step)
 refine (ppolicy_any A n c Q rs HR.out hn HSM.out HS.out HT.out hBw).mono ?_
 rintro e w1 ⟨hk, ⟨hz, rfl⟩ | ⟨hz, h1, rfl⟩⟩
 ·
  have HK := Lib.hid hk
  have HZ := Lib.hid hz
  clear hk hz
  dsimp only
  repeat (first | go_skip | go_guarded | go_step)
  go_ret
  exact ⟨HK.out, .inl ⟨HZ.out, rfl⟩⟩
 ·
  exact ⟨rfl, hk, .inr ⟨hz, h1, rfl⟩⟩
set_option maxRecDepth 100000 in
set_option maxHeartbeats 8000000 in
theorem caughtS_any (hL : Laid w) (hB0 : 0 < B) (pv lv : Nat) (A : Option Addr) (n c : Nat) (Q : List RlA) (rs : List Rl) (hp : Bk w pv LPp [.pointer (some ⟨b, 0, none⟩)]) (hl : Bk w lv SRl [.slice A n c]) (hr : RdRs w B A n Q rs) (hn : n ≤ 100000) (hsm : smallR rs) (h : PrS w B b (tpV gt) []) (ht : PrT w B gt Ft l0) (hBw : B ≤ w.heap.size) :
  Calls Tryz.prog 36 #[.func (.func 37) #[] #[.pointer (some ⟨pv, 0, none⟩), .pointer (some ⟨lv, 0, none⟩)]] w fun e w' =>
   Below B w w' ∧ e = .returned (.tuple #[strV (printL l0 rs).1, .int .i64 0, .int .i64 ((printL l0 rs).2 : Int)]) := by
 have hmf : ∀ (fn : Fn) (first cap : Array Value) (w : World), (Instr.makeFunc fn first cap).run Tryz.prog w = .ok (.func fn first cap) w := fun _ _ _ _ => rfl
 obtain ⟨U, ga, ge, hU, hub, ha, he, hba, hbe⟩ : ∃ U ga ge, U = (w.alloc (.cells #[.int .i64 0] 3)).alloc (.cells #[.int .i64 0] 28) ∧ Below w.heap.size w U ∧ w.heap.size = ga ∧ w.heap.size + 1 = ge ∧ Bk U ga 3 [.int .i64 0] ∧ Bk U ge 28 [.int .i64 0] :=
  ⟨_, _, _, rfl, ((Below.refl _ _).alloc (Nat.le_refl _) _).alloc (by simp) _, rfl, rfl, (Bk.new w _ _).alloc _, Bk.second w _ _ _⟩
 have HR := Lib.hid (hr.below (hub.mono hBw))
 have HSM := Lib.hid hsm
 have HS := Lib.hid (h.later hub)
 have HT := Lib.hid (ht.later hub)
 have HP := Lib.hid (hp.later hub)
 have HLL := Lib.hid (hl.later hub)
 have HL := Lib.hid hL
 have HU := Lib.hid hU
 have HUB := Lib.hid hub
 have HGA := Lib.hid ha
 have HGE := Lib.hid he
 have HA := Lib.hid hba
 have HE := Lib.hid hbe
 have HBU := Lib.hid (show B ≤ U.heap.size by have := hub.size; omega)
 have HBL := Lib.hid (show b < w.heap.size from h.lt)
 clear h ht hr hsm hp hl hL hU hub ha he hba hbe
 go_enter_defers Tryz.func36, Tryz.ntmps36
 go_upto_region 2 with (fail)
 rw [← HU.out, HGE.out, HGA.out]
 clear HU
 repeat (first | go_skip | go_guarded | go_step)
 refine (print1_any (w := U) pv lv A n c Q rs HP.out HLL.out HR.out hn HSM.out HS.out HT.out HBU.out).mono ?_
 rintro e w1 ⟨hk, ⟨hz, rfl⟩ | ⟨hz, h1, rfl⟩⟩
 ·
  have hka : Bk w1 ga 3 [.int .i64 0] := hk.bk HA.out (by have := HGA.out; have := HBL.out; omega) (by decide)
  have hke : Bk w1 ge 28 [.int .i64 0] := hk.bk HE.out (by have := HGE.out; have := HBL.out; omega) (by decide)
  have c0 := hka.readT (Below.refl _ _) 0 rfl
  have c1 := hke.readT (Below.refl _ _) 0 rfl
  have f0 := hka.frozen 0
  have f1 := hke.frozen 0
  have xn1 : ¬ ga = ge := by have := HGA.out; have := HGE.out; omega
  have xn2 : ¬ ge = ga := fun e => xn1 e.symm
  have HKA := Lib.hid hka
  have HKE := Lib.hid hke
  have HK := Lib.hid hk
  have HZ := Lib.hid hz
  clear hka hke hk hz
  dsimp only
  repeat (first | go_skip | go_guarded | go_step)
  obtain ⟨X, hX, hxa, hxe, hxt⟩ : ∃ X, X = (w1.setCell ⟨ga, 0, none⟩ (.int .i64 0)).setCell ⟨ge, 0, none⟩ (.int .i64 0) ∧ Bk X ga 3 [.int .i64 0] ∧ Bk X ge 28 [.int .i64 0] ∧ Turn (fun k => k = ga ∨ k = ge) w1 X :=
   ⟨_, rfl, Bk.far (HKA.out.set_ 0 _) (show ga ≠ ge from xn1) _, (Bk.far HKE.out (show ge ≠ ga from xn2) _).set_ 0 _, ((Turn.refl (fun k => k = ga ∨ k = ge) w1).setCell (p := ⟨ga, 0, none⟩) (fun _ => .inl rfl) _).setCell (p := ⟨ge, 0, none⟩) (fun _ => .inr rfl) _⟩
  rw [← hX]
  have q0 := hxa.readT (Below.refl _ _) 0 rfl
  have q1 := hxe.readT (Below.refl _ _) 0 rfl
  have HXT := Lib.hid hxt
  clear hX hxa hxe hxt c0 c1 f0 f1
  refine leaves_cons (f := 62) (args := #[.pointer (some ⟨ga, 0, none⟩), .pointer (some ⟨ge, 0, none⟩)]) (by simp) (by simp [go_sem]) ?_
  refine (catchS_idle ga ge X).mono ?_
  rintro e u' w'' ⟨rfl, rfl, rfl⟩
  refine ⟨.tuple #[strV (printL l0 rs).1, .int .i64 0, .int .i64 0], ?_, ?_, by rw [HZ.out]; rfl⟩
  ·
   simp [results, Tryz.results36, go_sem, q0, q1]
  ·
   exact (HUB.out.mono hBw).trans (HK.out.below.trans (HXT.out.below (fun k _ e => by have := HGA.out; have := HGE.out; omega) (by have := HK.out.below.size; have := HBU.out; omega)))
 ·
  have hka : Bk w1 ga 3 [.int .i64 0] := hk.bk HA.out (by have := HGA.out; have := HBL.out; omega) (by decide)
  have hke : Bk w1 ge 28 [.int .i64 0] := hk.bk HE.out (by have := HGE.out; have := HBL.out; omega) (by decide)
  have hl1 : Laid w1 := (hk.below.cell (p := ⟨0, 0, none⟩) hB0).trans (HL.out.later HUB.out)
  have HK := Lib.hid hk
  have HZ := Lib.hid hz
  have H1 := Lib.hid h1
  clear hk hz h1
  refine leaves_cons (f := 62) (args := #[.pointer (some ⟨ga, 0, none⟩), .pointer (some ⟨ge, 0, none⟩)]) (by simp) (by simp [go_sem]) ?_
  refine (catchS_panic _ _ ga ge w1 hl1 hka hke).mono ?_
  rintro e u' w'' ⟨rfl, rfl, hxa, hxe, hxt⟩
  have q0 := hxa.readT (Below.refl _ _) 0 rfl
  have q1 := hxe.readT (Below.refl _ _) 0 rfl
  refine ⟨.tuple #[.string ⟨#[]⟩, .int .i64 0, .int .i64 ((printL l0 rs).2 : Int)], ?_, ?_, by rw [H1.out]⟩
  ·
   simp [results, Tryz.results36, go_sem, q0, q1]
  ·
   exact (HUB.out.mono hBw).trans (HK.out.below.trans (hxt.below (fun k _ e => by have := HGA.out; have := HGE.out; omega) (by have := HK.out.below.size; have := HBU.out; omega)))
end
set_option maxRecDepth 100000 in
set_option maxHeartbeats 8000000 in
theorem print_any (g : Nat) (F : Nat → Prop) (l : List ByteArray) (A : Option Addr) (n c : Nat) (Q : List RlA) (rs : List Rl) (w : World) (hL : Laid w) (h : Tb w g F l) (hg : Good 4096 l) (hr : RdRs w w.heap.size A n Q rs) (hn : n ≤ 100000) (hsm : smallR rs) :
  Calls Tryz.prog 17 #[.pointer (some ⟨g, 0, none⟩), .slice A n c] w fun e w' => e = .returned (.tuple #[strV (printL l rs).1, .int .i64 ((printL l rs).2 : Int)]) ∧ Below w.heap.size w w' := by
 have hmf : ∀ (fn : Fn) (first cap : Array Value) (w : World), (Instr.makeFunc fn first cap).run Tryz.prog w = .ok (.func fn first cap) w := fun _ _ _ _ => rfl
 have HL := Lib.hid hL
 have HT := Lib.hid h
 have HG := Lib.hid hg
 have HR := Lib.hid hr
 have HSM := Lib.hid hsm
 clear hL h hg hr hsm
 go_enter Tryz.func17, Tryz.ntmps17
 go_upto_region 4 with (fail)
 obtain ⟨X, lv, bb, pv, hX, hxb, hlv, hbb, hpv, hl, hb, hp⟩ : ∃ X lv bb pv, X = ((w.alloc (.cells #[.slice A n c] SRl)).alloc (.cells #[.pointer (some ⟨g, 0, none⟩), .pointer none, .slice none 0 0] LP)).alloc (.cells #[.pointer (some ⟨w.heap.size + 1, 0, none⟩)] LPp) ∧ Below w.heap.size w X ∧ w.heap.size = lv ∧ w.heap.size + 1 = bb ∧ w.heap.size + 1 + 1 = pv ∧ Bk X lv SRl [.slice A n c] ∧ Bk X bb LP [.pointer (some ⟨g, 0, none⟩), .pointer none, .slice none 0 0] ∧ Bk X pv LPp [.pointer (some ⟨w.heap.size + 1, 0, none⟩)] := by
  refine ⟨_, _, _, _, rfl, (((Below.refl _ _).alloc (Nat.le_refl _) _).alloc (by simp) _).alloc (by simp; omega) _, rfl, rfl, rfl, ((Bk.new w _ _).alloc _).alloc _, (Bk.second w _ _ _).alloc _, ?_⟩
  have h := Bk.new ((w.alloc (.cells #[.slice A n c] SRl)).alloc (.cells #[.pointer (some ⟨g, 0, none⟩), .pointer none, .slice none 0 0] LP)) LPp [.pointer (some ⟨w.heap.size + 1, 0, none⟩)]
  rw [World.size_alloc, World.size_alloc] at h
  exact h
 rw [← hX, hpv, hbb, hlv]
 rw [hbb] at hp
 have HP := Lib.hid hp
 have HLV := Lib.hid hl
 have HXB := Lib.hid hxb
 have HPS := Lib.hid (show PrS X w.heap.size bb (tpV g) [] from ⟨by omega, _, _, hb, .inl rfl, World.ownsRow_nil _ _ _ _, fun _ => rfl⟩)
 have HPT := Lib.hid (show PrT X w.heap.size g F l from ⟨HT.out.later hxb, HT.out.lt, HG.out⟩)
 clear hX hxb hbb hpv hl hb hp
 repeat (first | go_skip | go_guarded | go_step)
 rw [← hlv] at HLV ⊢
 refine (caughtS_any (B := w.heap.size) (w := X) (HL.out.later HXB.out) HL.out.pos pv w.heap.size A n c Q rs HP.out HLV.out (HR.out.below HXB.out) hn HSM.out HPS.out HPT.out HXB.out.size).mono ?_
 rintro e w1 ⟨hb, rfl⟩
 have HB := Lib.hid (HXB.out.trans hb)
 clear hb hlv
 dsimp only
 repeat (first | go_skip | go_guarded | go_step)
 go_ret2
 exact ⟨rfl, HB.out⟩
set_option maxRecDepth 100000 in
theorem nprint_any (A : Option Addr) (n c : Nat) (w : World) :
  Calls Tryz.prog 17 #[.pointer none, .slice A n c] w fun e w' => e = .returned (.tuple #[sv ⟨#[]⟩, .int .i64 2]) ∧ Below w.heap.size w w' := by
 go_enter Tryz.func17, Tryz.ntmps17
 repeat (first | go_skip | go_guarded | go_step)
 go_ret2
 exact ⟨rfl, (Below.refl _ _).alloc (Nat.le_refl _) _⟩
set_option maxRecDepth 100000 in
theorem nparse_any (s : ByteArray) (w : World) : Calls Tryz.prog 11 #[.pointer none, sv s] w fun e w' => ∃ (A : Option Addr) (c : Nat), e = .returned (.tuple #[.slice A 0 c, .int .i64 0, .int .i64 2]) ∧ Below w.heap.size w w' := by
 go_enter Tryz.func11, Tryz.ntmps11
 repeat (first | go_skip | go_guarded | go_step)
 go_ret3
 exact ⟨none, 0, rfl, Below.refl _ _⟩
end Go.Proofs.YtoigpbajefkpoaaGreatDoor

set_option linter.unusedVariables false
namespace Go.Proofs.YtoigpbajefkpoaaGreatDoor
open Go Go.RowKit

theorem parses_ok : ParsesOk Laid where
 later := fun w w' h hb => h.later hb
 parse := fun g F l s w hL h hg hs => parse_any g F l s w hL h hg hs
 print := fun g F l A n c Q rs w hL h hg hr hnc hn hsm _ => print_any g F l A n c Q rs w hL h hg hr hn hsm
 nparse := fun s w _ => nparse_any s w
 nprint := fun A n c Q rs w _ _ _ _ => nprint_any A n c w
end Go.Proofs.YtoigpbajefkpoaaGreatDoor

set_option linter.unusedVariables false
set_option linter.unusedSimpArgs false
namespace Go.Proofs.YtoigpbajefkpoaaGreatDoor
open Go Go.RowKit Go.ChangeShapes Go.WideShapes Go.ChangeAt

def laid4 : List (String × DataW Unit) := [("math/bits.deBruijn32tab", Rows.laid_math_bits_deBruijn32tab), ("math/bits.deBruijn64tab", Rows.laid_math_bits_deBruijn64tab), ("internal/strconv.uint64pow10", Rows.laid_internal_strconv_uint64pow10), ("errors.errorType", Rows.laid_errors_errorType)]
theorem door_met (os : Os) (args : Array Value) : laidMetH Tryz.prog laid4 ((World.doorLaid Tryz.prog 185 os).forCall (fun _ _ => 0) ⟨#[], args, []⟩).memory :=
 laidMetH_of_parts3 (fuel := 8) (laidMet_of_run' 8 (by kernel_rfl) (by kernel_rfl)) (by kernel_rfl) (by kernel_rfl)
theorem gET : Tryz.prog.globalNamed "errors.errorType" = some 0 := by kernel_rfl
theorem rtET : (Tryz.prog.cutTypes.find? (·.1 == "internal/reflectlite.rtype")).map (·.2) = some RY := by kernel_rfl
theorem oneErr : ((List.range 250).filter fun t => Tryz.prog.rowNamed t [101, 114, 114, 111, 114]) = [ER] := by kernel_rfl
theorem sizeET : Tryz.prog.types.size = 250 := by kernel_rfl
theorem laid_of {W : World} (h : laidMetH Tryz.prog laid4 W) : Laid W := by
 obtain ⟨name, u, ty, e1, e2, e3, e4, e5⟩ := h.2 ("errors.errorType", Rows.laid_errors_errorType) (by simp [DataW.handleName?, Rows.laid_errors_errorType])
 have en : name = [101, 114, 114, 111, 114] := (Option.some.inj e1).symm
 subst en
 obtain rfl := Option.some.inj (rtET.symm.trans e2)
 have hm : ty ∈ (List.range 250).filter fun t => Tryz.prog.rowNamed t [101, 114, 114, 111, 114] := List.mem_filter.2 ⟨List.mem_range.2 (by rw [← sizeET]; exact e3), e4⟩
 rw [oneErr] at hm
 obtain rfl := List.mem_singleton.1 hm
 have hh : typeHandle Tryz.prog ER = hdl ER := by kernel_rfl
 rw [hh] at e5
 show W.cell? ⟨0, 0, none⟩ = _
 simpa using World.var?_cell gET e5 0
theorem tab_of_laid {W : World} (h : laidMetH Tryz.prog laid4 W) : Laid W := laid_of h
end Go.Proofs.YtoigpbajefkpoaaGreatDoor

