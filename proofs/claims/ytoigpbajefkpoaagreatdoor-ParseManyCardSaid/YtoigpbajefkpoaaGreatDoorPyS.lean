/- Texts, packed: PcI PcJ PdT PaG PaH -/
import Derived.Test.YtoigpbajefkpoaaGreatDoorPyR
import Derived.Test.YtoigpbajefkpoaaGreatDoorPyN
import Derived.Test.YtoigpbajefkpoaaGreatDoorTie
import Derived.LaidHandle
import Derived.LaidLaws
import Derived.LaidMore
import Derived.Stop.Joined
import Derived.Stop.LaidErr
import Derived.Lib.LaidTab
import Derived.Test.YtoigpbajefkpoaaGreatDoorPyI
set_option linter.unusedVariables false
set_option linter.unusedSimpArgs false
namespace Go.Proofs.YtoigpbajefkpoaaGreatDoor
open Go Go.RowKit

abbrev LPp : TypeId := 89
abbrev SRl : TypeId := 27
section
variable {B b gt : Nat} {Ft : Nat → Prop} {l0 : List ByteArray} {w : World}
set_option maxRecDepth 100000 in
set_option maxHeartbeats 4000000 in
theorem print1_any (pv lv : Nat) (A : Option Addr) (n c : Nat) (Q : List RlA) (rs : List Rl) (hp : Bk w pv LPp [.pointer (some ⟨b, 0, none⟩)]) (hl : Bk w lv SRl [.slice A n c]) (hr : RdRs w B A n Q rs) (hn : n ≤ 100000) (hsm : smallR rs) (h : PrS w B b (tpV gt) []) (ht : PrT w B gt Ft l0) (hBw : B ≤ w.heap.size) :
  Calls Tryz.prog 37 #[.pointer (some ⟨pv, 0, none⟩), .pointer (some ⟨lv, 0, none⟩)] w fun e w' =>
   Kw B b w w' ∧ (((printL l0 rs).2 = 0 ∧ e = .returned (strV (printL l0 rs).1)) ∨ ((printL l0 rs).2 ≠ 0 ∧ (printL l0 rs).1 = [] ∧ e = pnc ((printL l0 rs).2, 0))) := by
 have k0 := hp.readT (Below.refl _ _) 0 rfl
 have k1 := hl.readT (Below.refl _ _) 0 rfl
 have HR := Lib.hid hr
 have HSM := Lib.hid hsm
 have HS := Lib.hid h
 have HT := Lib.hid ht
 clear h ht hr hsm hp hl
 go_enter Tryz.func37, Tryz.ntmps37
 repeat (first | go_skip | go_guarded | go_step)
 refine (ppolicy_any A n c Q rs HR.out hn HSM.out HS.out HT.out hBw).mono ?_
 rintro e w1 ⟨hk, ⟨hz, rfl⟩ | ⟨hz, h1, rfl⟩⟩
 ·
  have HK := Lib.hid hk
  have HZ := Lib.hid hz
  clear hk hz
  dsimp only
  repeat (first | go_skip | go_guarded | go_step)
  go_ret
  exact ⟨HK.out, .inl ⟨HZ.out, rfl⟩⟩
 ·
  exact ⟨rfl, hk, .inr ⟨hz, h1, rfl⟩⟩
set_option maxRecDepth 100000 in
set_option maxHeartbeats 8000000 in
theorem caughtS_any (hL : Laid w) (hB0 : 0 < B) (pv lv : Nat) (A : Option Addr) (n c : Nat) (Q : List RlA) (rs : List Rl) (hp : Bk w pv LPp [.pointer (some ⟨b, 0, none⟩)]) (hl : Bk w lv SRl [.slice A n c]) (hr : RdRs w B A n Q rs) (hn : n ≤ 100000) (hsm : smallR rs) (h : PrS w B b (tpV gt) []) (ht : PrT w B gt Ft l0) (hBw : B ≤ w.heap.size) :
  Calls Tryz.prog 36 #[.func (.func 37) #[] #[.pointer (some ⟨pv, 0, none⟩), .pointer (some ⟨lv, 0, none⟩)]] w fun e w' =>
   Below B w w' ∧ e = .returned (.tuple #[strV (printL l0 rs).1, .int .i64 0, .int .i64 ((printL l0 rs).2 : Int)]) := by
 have hmf : ∀ (fn : Fn) (first cap : Array Value) (w : World), (Instr.makeFunc fn first cap).run Tryz.prog w = .ok (.func fn first cap) w := fun _ _ _ _ => rfl
 obtain ⟨U, ga, ge, hU, hub, ha, he, hba, hbe⟩ : ∃ U ga ge, U = (w.alloc (.cells #[.int .i64 0] 3)).alloc (.cells #[.int .i64 0] 28) ∧ Below w.heap.size w U ∧ w.heap.size = ga ∧ w.heap.size + 1 = ge ∧ Bk U ga 3 [.int .i64 0] ∧ Bk U ge 28 [.int .i64 0] :=
  ⟨_, _, _, rfl, ((Below.refl _ _).alloc (Nat.le_refl _) _).alloc (by simp) _, rfl, rfl, (Bk.new w _ _).alloc _, Bk.second w _ _ _⟩
 have HR := Lib.hid (hr.below (hub.mono hBw))
 have HSM := Lib.hid hsm
 have HS := Lib.hid (h.later hub)
 have HT := Lib.hid (ht.later hub)
 have HP := Lib.hid (hp.later hub)
 have HLL := Lib.hid (hl.later hub)
 have HL := Lib.hid hL
 have HU := Lib.hid hU
 have HUB := Lib.hid hub
 have HGA := Lib.hid ha
 have HGE := Lib.hid he
 have HA := Lib.hid hba
 have HE := Lib.hid hbe
 have HBU := Lib.hid (show B ≤ U.heap.size by have := hub.size; omega)
 have HBL := Lib.hid (show b < w.heap.size from h.lt)
 clear h ht hr hsm hp hl hL hU hub ha he hba hbe
 go_enter_defers Tryz.func36, Tryz.ntmps36
 go_upto_region 2 with (fail)
 rw [← HU.out, HGE.out, HGA.out]
 clear HU
 repeat (first | go_skip | go_guarded | go_step)
 refine (print1_any (w := U) pv lv A n c Q rs HP.out HLL.out HR.out hn HSM.out HS.out HT.out HBU.out).mono ?_
 rintro e w1 ⟨hk, ⟨hz, rfl⟩ | ⟨hz, h1, rfl⟩⟩
 ·
  have hka : Bk w1 ga 3 [.int .i64 0] := hk.bk HA.out (by have := HGA.out; have := HBL.out; omega) (by decide)
  have hke : Bk w1 ge 28 [.int .i64 0] := hk.bk HE.out (by have := HGE.out; have := HBL.out; omega) (by decide)
  have c0 := hka.readT (Below.refl _ _) 0 rfl
  have c1 := hke.readT (Below.refl _ _) 0 rfl
  have f0 := hka.frozen 0
  have f1 := hke.frozen 0
  have xn1 : ¬ ga = ge := by have := HGA.out; have := HGE.out; omega
  have xn2 : ¬ ge = ga := fun e => xn1 e.symm
  have HKA := Lib.hid hka
  have HKE := Lib.hid hke
  have HK := Lib.hid hk
  have HZ := Lib.hid hz
  clear hka hke hk hz
  dsimp only
  repeat (first | go_skip | go_guarded | go_step)
  obtain ⟨X, hX, hxa, hxe, hxt⟩ : ∃ X, X = (w1.setCell ⟨ga, 0, none⟩ (.int .i64 0)).setCell ⟨ge, 0, none⟩ (.int .i64 0) ∧ Bk X ga 3 [.int .i64 0] ∧ Bk X ge 28 [.int .i64 0] ∧ Turn (fun k => k = ga ∨ k = ge) w1 X :=
   ⟨_, rfl, Bk.far (HKA.out.set_ 0 _) (show ga ≠ ge from xn1) _, (Bk.far HKE.out (show ge ≠ ga from xn2) _).set_ 0 _, ((Turn.refl (fun k => k = ga ∨ k = ge) w1).setCell (p := ⟨ga, 0, none⟩) (fun _ => .inl rfl) _).setCell (p := ⟨ge, 0, none⟩) (fun _ => .inr rfl) _⟩
  rw [← hX]
  have q0 := hxa.readT (Below.refl _ _) 0 rfl
  have q1 := hxe.readT (Below.refl _ _) 0 rfl
  have HXT := Lib.hid hxt
  clear hX hxa hxe hxt c0 c1 f0 f1
  refine leaves_cons (f := 62) (args := #[.pointer (some ⟨ga, 0, none⟩), .pointer (some ⟨ge, 0, none⟩)]) (by simp) (by simp [go_sem]) ?_
  refine (catchS_idle ga ge X).mono ?_
  rintro e u' w'' ⟨rfl, rfl, rfl⟩
  refine ⟨.tuple #[strV (printL l0 rs).1, .int .i64 0, .int .i64 0], ?_, ?_, by rw [HZ.out]; rfl⟩
  ·
   simp [results, Tryz.results36, go_sem, q0, q1]
  ·
   exact (HUB.out.mono hBw).trans (HK.out.below.trans (HXT.out.below (fun k _ e => by have := HGA.out; have := HGE.out; omega) (by have := HK.out.below.size; have := HBU.out; omega)))
 ·
  have hka : Bk w1 ga 3 [.int .i64 0] := hk.bk HA.out (by have := HGA.out; have := HBL.out; omega) (by decide)
  have hke : Bk w1 ge 28 [.int .i64 0] := hk.bk HE.out (by have := HGE.out; have := HBL.out; omega) (by decide)
  have hl1 : Laid w1 := (hk.below.cell (p := ⟨0, 0, none⟩) hB0).trans (HL.out.later HUB.out)
  have HK := Lib.hid hk
  have HZ := Lib.hid hz
  have H1 := Lib.hid h1
  clear hk hz h1
  refine leaves_cons (f := 62) (args := #[.pointer (some ⟨ga, 0, none⟩), .pointer (some ⟨ge, 0, none⟩)]) (by simp) (by simp [go_sem]) ?_
  refine (catchS_panic _ _ ga ge w1 hl1 hka hke).mono ?_
  rintro e u' w'' ⟨rfl, rfl, hxa, hxe, hxt⟩
  have q0 := hxa.readT (Below.refl _ _) 0 rfl
  have q1 := hxe.readT (Below.refl _ _) 0 rfl
  refine ⟨.tuple #[.string ⟨#[]⟩, .int .i64 0, .int .i64 ((printL l0 rs).2 : Int)], ?_, ?_, by rw [H1.out]⟩
  ·
   simp [results, Tryz.results36, go_sem, q0, q1]
  ·
   exact (HUB.out.mono hBw).trans (HK.out.below.trans (hxt.below (fun k _ e => by have := HGA.out; have := HGE.out; omega) (by have := HK.out.below.size; have := HBU.out; omega)))
end
set_option maxRecDepth 100000 in
set_option maxHeartbeats 8000000 in
theorem print_any (g : Nat) (F : Nat → Prop) (l : List ByteArray) (A : Option Addr) (n c : Nat) (Q : List RlA) (rs : List Rl) (w : World) (hL : Laid w) (h : Tb w g F l) (hg : Good 4096 l) (hr : RdRs w w.heap.size A n Q rs) (hn : n ≤ 100000) (hsm : smallR rs) :
  Calls Tryz.prog 17 #[.pointer (some ⟨g, 0, none⟩), .slice A n c] w fun e w' => e = .returned (.tuple #[strV (printL l rs).1, .int .i64 ((printL l rs).2 : Int)]) ∧ Below w.heap.size w w' := by
 have hmf : ∀ (fn : Fn) (first cap : Array Value) (w : World), (Instr.makeFunc fn first cap).run Tryz.prog w = .ok (.func fn first cap) w := fun _ _ _ _ => rfl
 have HL := Lib.hid hL
 have HT := Lib.hid h
 have HG := Lib.hid hg
 have HR := Lib.hid hr
 have HSM := Lib.hid hsm
 clear hL h hg hr hsm
 go_enter Tryz.func17, Tryz.ntmps17
 go_upto_region 4 with (fail)
 obtain ⟨X, lv, bb, pv, hX, hxb, hlv, hbb, hpv, hl, hb, hp⟩ : ∃ X lv bb pv, X = ((w.alloc (.cells #[.slice A n c] SRl)).alloc (.cells #[.pointer (some ⟨g, 0, none⟩), .pointer none, .slice none 0 0] LP)).alloc (.cells #[.pointer (some ⟨w.heap.size + 1, 0, none⟩)] LPp) ∧ Below w.heap.size w X ∧ w.heap.size = lv ∧ w.heap.size + 1 = bb ∧ w.heap.size + 1 + 1 = pv ∧ Bk X lv SRl [.slice A n c] ∧ Bk X bb LP [.pointer (some ⟨g, 0, none⟩), .pointer none, .slice none 0 0] ∧ Bk X pv LPp [.pointer (some ⟨w.heap.size + 1, 0, none⟩)] := by
  refine ⟨_, _, _, _, rfl, (((Below.refl _ _).alloc (Nat.le_refl _) _).alloc (by simp) _).alloc (by simp; omega) _, rfl, rfl, rfl, ((Bk.new w _ _).alloc _).alloc _, (Bk.second w _ _ _).alloc _, ?_⟩
  have h := Bk.new ((w.alloc (.cells #[.slice A n c] SRl)).alloc (.cells #[.pointer (some ⟨g, 0, none⟩), .pointer none, .slice none 0 0] LP)) LPp [.pointer (some ⟨w.heap.size + 1, 0, none⟩)]
  rw [World.size_alloc, World.size_alloc] at h
  exact h
 rw [← hX, hpv, hbb, hlv]
 rw [hbb] at hp
 have HP := Lib.hid hp
 have HLV := Lib.hid hl
 have HXB := Lib.hid hxb
 have HPS := Lib.hid (show PrS X w.heap.size bb (tpV g) [] from ⟨by omega, _, _, hb, .inl rfl, World.ownsRow_nil _ _ _ _, fun _ => rfl⟩)
 have HPT := Lib.hid (show PrT X w.heap.size g F l from ⟨HT.out.later hxb, HT.out.lt, HG.out⟩)
 clear hX hxb hbb hpv hl hb hp
 repeat (first | go_skip | go_guarded | go_step)
 rw [← hlv] at HLV ⊢
 refine (caughtS_any (B := w.heap.size) (w := X) (HL.out.later HXB.out) HL.out.pos pv w.heap.size A n c Q rs HP.out HLV.out (HR.out.below HXB.out) hn HSM.out HPS.out HPT.out HXB.out.size).mono ?_
 rintro e w1 ⟨hb, rfl⟩
 have HB := Lib.hid (HXB.out.trans hb)
 clear hb hlv
 dsimp only
 repeat (first | go_skip | go_guarded | go_step)
 go_ret2
 exact ⟨rfl, HB.out⟩
set_option maxRecDepth 100000 in
theorem nprint_any (A : Option Addr) (n c : Nat) (w : World) :
  Calls Tryz.prog 17 #[.pointer none, .slice A n c] w fun e w' => e = .returned (.tuple #[sv ⟨#[]⟩, .int .i64 2]) ∧ Below w.heap.size w w' := by
 go_enter Tryz.func17, Tryz.ntmps17
 repeat (first | go_skip | go_guarded | go_step)
 go_ret2
 exact ⟨rfl, (Below.refl _ _).alloc (Nat.le_refl _) _⟩
set_option maxRecDepth 100000 in
theorem nparse_any (s : ByteArray) (w : World) : Calls Tryz.prog 11 #[.pointer none, sv s] w fun e w' => ∃ (A : Option Addr) (c : Nat), e = .returned (.tuple #[.slice A 0 c, .int .i64 0, .int .i64 2]) ∧ Below w.heap.size w w' := by
 go_enter Tryz.func11, Tryz.ntmps11
 repeat (first | go_skip | go_guarded | go_step)
 go_ret3
 exact ⟨none, 0, rfl, Below.refl _ _⟩
end Go.Proofs.YtoigpbajefkpoaaGreatDoor

set_option linter.unusedVariables false
namespace Go.Proofs.YtoigpbajefkpoaaGreatDoor
open Go Go.RowKit

theorem parses_ok : ParsesOk Laid where
 later := fun w w' h hb => h.later hb
 parse := fun g F l s w hL h hg hs => parse_any g F l s w hL h hg hs
 print := fun g F l A n c Q rs w hL h hg hr hnc hn hsm _ => print_any g F l A n c Q rs w hL h hg hr hn hsm
 nparse := fun s w _ => nparse_any s w
 nprint := fun A n c Q rs w _ _ _ _ => nprint_any A n c w
end Go.Proofs.YtoigpbajefkpoaaGreatDoor

set_option linter.unusedVariables false
set_option linter.unusedSimpArgs false
namespace Go.Proofs.YtoigpbajefkpoaaGreatDoor
open Go Go.RowKit Go.ChangeShapes Go.WideShapes Go.ChangeAt

def laid4 : List (String × DataW Unit) := [("math/bits.deBruijn32tab", Rows.laid_math_bits_deBruijn32tab), ("math/bits.deBruijn64tab", Rows.laid_math_bits_deBruijn64tab), ("internal/strconv.uint64pow10", Rows.laid_internal_strconv_uint64pow10), ("errors.errorType", Rows.laid_errors_errorType)]
theorem door_met (os : Os) (args : Array Value) : laidMetH Tryz.prog laid4 ((World.doorLaid Tryz.prog 185 os).forCall (fun _ _ => 0) ⟨#[], args, []⟩).memory :=
 laidMetH_of_parts3 (fuel := 8) (laidMet_of_run' 8 (by kernel_rfl) (by kernel_rfl)) (by kernel_rfl) (by kernel_rfl)
theorem gET : Tryz.prog.globalNamed "errors.errorType" = some 0 := by kernel_rfl
theorem rtET : (Tryz.prog.cutTypes.find? (·.1 == "internal/reflectlite.rtype")).map (·.2) = some RY := by kernel_rfl
theorem oneErr : ((List.range 250).filter fun t => Tryz.prog.rowNamed t [101, 114, 114, 111, 114]) = [ER] := by kernel_rfl
theorem sizeET : Tryz.prog.types.size = 250 := by kernel_rfl
theorem laid_of {W : World} (h : laidMetH Tryz.prog laid4 W) : Laid W := by
 obtain ⟨name, u, ty, e1, e2, e3, e4, e5⟩ := h.2 ("errors.errorType", Rows.laid_errors_errorType) (by simp [DataW.handleName?, Rows.laid_errors_errorType])
 have en : name = [101, 114, 114, 111, 114] := (Option.some.inj e1).symm
 subst en
 obtain rfl := Option.some.inj (rtET.symm.trans e2)
 have hm : ty ∈ (List.range 250).filter fun t => Tryz.prog.rowNamed t [101, 114, 114, 111, 114] := List.mem_filter.2 ⟨List.mem_range.2 (by rw [← sizeET]; exact e3), e4⟩
 rw [oneErr] at hm
 obtain rfl := List.mem_singleton.1 hm
 have hh : typeHandle Tryz.prog ER = hdl ER := by kernel_rfl
 rw [hh] at e5
 show W.cell? ⟨0, 0, none⟩ = _
 simpa using World.var?_cell gET e5 0
theorem tab_of_laid {W : World} (h : laidMetH Tryz.prog laid4 W) : Laid W := laid_of h
end Go.Proofs.YtoigpbajefkpoaaGreatDoor

set_option linter.unusedVariables false
set_option linter.unusedSimpArgs false
namespace Go.Proofs.YtoigpbajefkpoaaGreatDoor
open Go Go.RowKit

theorem digitsL_small {n : Nat} (h : n < 10) : digitsL n = [UInt8.ofNat (48 + n)] := by rw [digitsL, dif_pos h]
theorem digitsL_big {n : Nat} (h : ¬ n < 10) : digitsL n = digitsL (n / 10) ++ digitsL (n % 10) := by
 rw [digitsL, dif_neg h, digitsL_small (n := n % 10) (by omega)]
theorem digitsL_len : ∀ (k n : Nat), n < 10 ^ (k + 1) → (digitsL n).length ≤ k + 1
 | 0, n, h => by rw [digitsL_small (by omega)]; simp
 | k + 1, n, h => by
  by_cases hn : n < 10
  ·
   rw [digitsL_small hn]; simp
  ·
   rw [digitsL_big hn, digitsL_small (n := n % 10) (by omega), List.length_append]
   have := digitsL_len k (n / 10) (by rw [Nat.pow_succ] at h; omega)
   simp
   omega
theorem app_str {X Y : List UInt8} : ((⟨X.toArray⟩ : ByteArray) ++ ⟨Y.toArray⟩) = ⟨(X ++ Y).toArray⟩ := by
 apply ByteArray.ext
 simp
set_option maxRecDepth 100000 in
set_option maxHeartbeats 8000000 in
theorem rDigits_any (n : Nat) : n < 4294967296 → ∀ (w : World), Calls Tryz.prog 92 #[.int .u32 (n : Int)] w fun e w' => e = .returned (strV (digitsL n)) ∧ Below w.heap.size w w' := by
 induction n using Nat.strongRecOn with
 | _ n ih =>
  intro hn w
  by_cases h10 : n < 10
  ·
   obtain ⟨d, hd⟩ : ∃ d : UInt8, d = UInt8.ofNat (48 + n) := ⟨_, rfl⟩
   have hdn : d.toNat = 48 + n := by rw [hd, UInt8.toNat_ofNat_of_lt' (by show _ < 256; omega)]
   have hl : digitsL n = [d] := by rw [digitsL_small h10, hd]
   have hc : (n : Int) < 10 := by omega
   have e1 : (48 : Int) + (n : Int) = (d.toNat : Int) := by omega
   have e2 : IntKind.u32.wrap (d.toNat : Int) = (d.toNat : Int) := by rw [IntKind.wrap_u32]; omega
   have e3 : IntKind.u8.wrap (d.toNat : Int) = (d.toNat : Int) := by rw [IntKind.wrap_u8]; omega
   have k1 : (convert 91 9 (.slice (some ⟨w.heap.size, 0, none⟩) 1 1)).run Tryz.prog (w.alloc (.cells #[.int .u8 (d.toNat : Int)] 5)) = .ok (strV [d]) (w.alloc (.cells #[.int .u8 (d.toNat : Int)] 5)) :=
    run_conv_str (P := Tryz.prog) _ 91 9 5 Tryz.underlying91 Tryz.underlying5 Tryz.underlying9 (w.heap.size + 1) _ _ _ [d] ⟨by simp, fun _ => ⟨_, _, rfl, by omega, fun j u hu => by
     rw [Nat.zero_add, cell_of_row _ _ j #[.int .u8 (d.toNat : Int)] 5 (0, 0) (heap_alloc_new w _)]
     simpa [bv] using hu⟩⟩
   have HD := Lib.hid hl
   clear hd hdn hl ih
   have hba := (Below.refl w.heap.size w).alloc (Nat.le_refl _) (.cells #[.int .u8 (d.toNat : Int)] 5)
   have HBA := Lib.hid hba
   clear hba
   go_enter Tryz.func92, Tryz.ntmps92
   repeat (first | go_skip | go_guarded | go_step)
   go_ret
   exact ⟨by rw [HD.out]; rfl, HBA.out⟩
  ·
   obtain ⟨q, hq⟩ : ∃ q, q = n / 10 := ⟨_, rfl⟩
   obtain ⟨r, hr⟩ : ∃ r, r = n % 10 := ⟨_, rfl⟩
   have hc : ¬ (n : Int) < 10 := by omega
   have e1 : (n : Int).tdiv 10 = (q : Int) := by rw [Int.tdiv_eq_ediv_of_nonneg (by omega)]; omega
   have e2 : (n : Int).tmod 10 = (r : Int) := by rw [Int.tmod_eq_emod_of_nonneg (by omega)]; omega
   have e3 : IntKind.u32.wrap (q : Int) = (q : Int) := by rw [IntKind.wrap_u32] <;> omega
   have e4 : IntKind.u32.wrap (r : Int) = (r : Int) := by rw [IntKind.wrap_u32] <;> omega
   have e5 : (n : Int) / 10 = (q : Int) := by omega
   have e6 : (n : Int) % 10 = (r : Int) := by omega
   have hl : digitsL n = digitsL q ++ digitsL r := by rw [digitsL_big h10, hq, hr]
   have l1 : (digitsL q).length ≤ 10 := digitsL_len 9 q (by omega)
   have l2 : (digitsL r).length ≤ 1 := digitsL_len 0 r (by omega)
   have HQ := Lib.hid (ih q (by omega) (by omega))
   have HRr := Lib.hid (ih r (by omega) (by omega))
   have HL := Lib.hid hl
   obtain ⟨X, hX, hXs⟩ : ∃ X : ByteArray, strV (digitsL q) = sv X ∧ X = ⟨(digitsL q).toArray⟩ := ⟨_, rfl, rfl⟩
   obtain ⟨Y, hY, hYs⟩ : ∃ Y : ByteArray, strV (digitsL r) = sv Y ∧ Y = ⟨(digitsL r).toArray⟩ := ⟨_, rfl, rfl⟩
   have s1 : X.size ≤ 10 := by rw [hXs]; exact l1
   have s2 : Y.size ≤ 1 := by rw [hYs]; exact l2
   have g1 : X.size + Y.size ≤ maxLen := by unfold maxLen; omega
   have g2 : ¬ (maxLen < X.size + Y.size) := by omega
   have HE := Lib.hid (show X ++ Y = ⟨(digitsL n).toArray⟩ by rw [hXs, hYs, app_str, ← hl])
   have HX := Lib.hid hX
   have HY := Lib.hid hY
   clear hq hr hl hX hY hXs hYs ih l1 l2
   go_enter Tryz.func92, Tryz.ntmps92
   repeat (first | go_skip | go_guarded | go_step)
   refine (HQ.out w).mono ?_
   rintro e w1 ⟨rfl, hb1⟩
   rw [HX.out]
   have HB1 := Lib.hid hb1
   clear hb1
   dsimp only
   repeat (first | go_skip | go_guarded | go_step)
   refine (HRr.out w1).mono ?_
   rintro e w2 ⟨rfl, hb2⟩
   rw [HY.out]
   have HB2 := Lib.hid (HB1.out.trans (hb2.mono HB1.out.size))
   clear hb2
   dsimp only
   repeat (first | go_skip | go_guarded | go_step)
   go_ret
   exact ⟨by show Ending.returned (sv (X ++ Y)) = _; rw [HE.out], HB2.out⟩

theorem plainB_not {s : ByteArray} {ws : List Wd} {y z : Nat} (h : (ws, y, z) = wordsL (tb s)) (hz : z ≠ 0) : plainB s = false := by
 unfold plainB
 rw [← h]
 split
 ·
  rename_i heq
  simp only [Prod.mk.injEq] at heq
  exact absurd heq.2.2 hz
 ·
  rfl
theorem plainB_nil {s : ByteArray} {y z : Nat} (h : (([] : List Wd), y, z) = wordsL (tb s)) : plainB s = false := by
 unfold plainB
 rw [← h]
theorem plainB_two {s : ByteArray} {u v : Wd} {r : List Wd} {y z : Nat} (h : (u :: v :: r, y, z) = wordsL (tb s)) : plainB s = false := by
 unfold plainB
 rw [← h]
theorem plainB_one {s : ByteArray} {u : Wd} {y : Nat} (h : ([u], y, 0) = wordsL (tb s)) : plainB s = decide (u.1 = 1 ∧ u.2.1 = tb s) := by
 unfold plainB
 rw [← h]
 rfl
set_option maxRecDepth 100000 in
set_option maxHeartbeats 8000000 in
theorem rPlain_any (s : ByteArray) (w : World) (hs : s.size ≤ 1099511627776) : Calls Tryz.prog 91 #[sv s] w fun e w' => e = .returned (.bool (plainB s)) ∧ Below w.heap.size w w' := by
 go_enter Tryz.func91, Tryz.ntmps91
 repeat (first | go_skip | go_guarded | go_step)
 refine (rWords_any s w hs).mono ?_
 rintro e w1 ⟨A, m, c, ws, y, z, rfl, ho, hb, ha⟩
 have HB := Lib.hid hb
 have HO := Lib.hid (OwV.rd ho)
 obtain rfl : m = ws.length := (rdV_len (OwV.rd ho)).symm
 clear hb ho
 by_cases hz : z = 0
 ·
  subst hz
  match ws, HO, ha with
  | [], HO, ha =>
   have HP := Lib.hid (plainB_nil ha)
   clear ha
   dsimp only [List.length_nil]
   repeat (first | go_skip | go_guarded | go_step)
   go_ret
   exact ⟨by rw [HP.out]; rfl, HB.out⟩
  | u :: v :: r, HO, ha =>
   have HP := Lib.hid (plainB_two ha)
   clear ha
   obtain ⟨k, hk, hk1⟩ : ∃ k, k = (u :: v :: r).length ∧ (((k : Nat) : Int) == 1) = false := ⟨_, rfl, by simp; omega⟩
   rw [← hk]
   clear hk
   dsimp only
   repeat (first | go_skip | go_guarded | go_step)
   go_ret
   exact ⟨by rw [HP.out]; rfl, HB.out⟩
  | [u], HO, ha =>
   have hp := plainB_one ha
   obtain ⟨b, o, ⟨k, t, a⟩, rfl, hbb, hx, hc0, hc1, hc2⟩ := rdV_at (i := 0) HO.out (by simp)
   simp only [List.getElem?_cons_zero, Option.some.injEq] at hx
   subst hx
   clear ha HO
   dsimp only [List.length_cons, List.length_nil]
   rw [show o + 0 * 3 = o by omega] at hc0 hc1 hc2
   by_cases hk : k = 1
   ·
    subst hk
    obtain ⟨T, hT⟩ : ∃ T : ByteArray, T = ⟨t.toArray⟩ := ⟨_, rfl⟩
    have hc1' : w1.cell? ⟨b, o + 1, none⟩ = some (sv T) := by rw [hT]; exact hc1
    clear hc1
    by_cases hts : T = s
    ·
     subst hts
     have HP := Lib.hid (hp.trans (decide_eq_true ⟨rfl, by rw [hT]⟩))
     clear hp hT hc2
     repeat (first | go_skip | go_guarded | go_step)
     go_ret
     exact ⟨by rw [HP.out]; simp, HB.out⟩
    ·
     have HP := Lib.hid (hp.trans (decide_eq_false (fun h => hts (by rw [hT]; have h2 : t = s.data.toList := h.2; exact ByteArray.ext (by rw [h2])))))
     have hts2 : (T.toList == s.toList) = false := neS hts
     clear hp hT hc2 hts
     repeat (first | go_skip | go_guarded | go_step)
     go_ret
     exact ⟨by rw [HP.out]; first | rfl | (show Ending.returned (Value.bool (T.toList == s.toList)) = _; rw [hts2]), HB.out⟩
   ·
    have HP := Lib.hid (hp.trans (decide_eq_false (fun h => hk h.1)))
    have hk1 : ((k : Int) == 1) = false := by simp; omega
    clear hp hc2 hc1
    repeat (first | go_skip | go_guarded | go_step)
    go_ret
    exact ⟨by rw [HP.out]; simp [hk1], HB.out⟩
 ·
  have HP := Lib.hid (plainB_not ha hz)
  have hz0 : ((z : Int) == 0) = false := by simp; omega
  clear ha hz HO
  dsimp only
  repeat (first | go_skip | go_guarded | go_step)
  go_ret
  exact ⟨by rw [HP.out]; rfl, HB.out⟩
/-- Names of a table: not long. -/
def Short (l : List ByteArray) : Prop := ∀ s ∈ l, s.size ≤ 1000
theorem namedL_len {l : List ByteArray} (h : Short l) (i : Nat) : (namedL l i).length ≤ 1000 := by
 unfold namedL
 split
 ·
  rename_i s hs
  split
  ·
   rw [tb_len]
   exact h s (List.mem_of_getElem? hs)
  ·
   simp
 ·
  simp
set_option maxRecDepth 100000 in
set_option maxHeartbeats 8000000 in
theorem rNamed_any (A : Option Addr) (n c : Nat) (l : List ByteArray) (i : UInt32) (w : World) (hr : Rd w w.heap.size 1 A n (l.map sv)) (hn : n ≤ 100000) (hl : Short l) :
  Calls Tryz.prog 65 #[.slice A n c, nv i] w fun e w' => e = .returned (strV (namedL l i.toNat)) ∧ Below w.heap.size w w' := by
 have hll : l.length = n := by simpa using hr.len1
 obtain ⟨k, hk⟩ : ∃ k : Nat, k = i.toNat := ⟨_, rfl⟩
 have hk32 : k < 4294967296 := by rw [hk]; exact i.toNat_lt
 have hkv : nv i = .int .u32 (k : Int) := by rw [hk]
 rw [hkv, ← hk]
 clear hkv hk
 have e1 : IntKind.u64.wrap (k : Int) = (k : Int) := by rw [IntKind.wrap_u64] <;> omega
 have e2 : IntKind.u64.wrap (n : Int) = (n : Int) := by rw [IntKind.wrap_u64] <;> omega
 by_cases hkn : n ≤ k
 ·
  have hc : (n : Int) ≤ (k : Int) := by omega
  have hnil : namedL l k = [] := by
   unfold namedL
   rw [List.getElem?_eq_none (by omega)]
  have HN := Lib.hid hnil
  clear hr hll hnil
  go_enter Tryz.func65, Tryz.ntmps65
  repeat (first | go_skip | go_guarded | go_step)
  go_ret
  exact ⟨by rw [HN.out]; rfl, Below.refl _ _⟩
 ·
  have hc : ¬ (n : Int) ≤ (k : Int) := by omega
  have hkn' : k < n := by omega
  obtain ⟨b, o, rfl, hb, hcell⟩ := hr.2 (by omega)
  have hg : l[k]? = some (l[k]'(by omega)) := List.getElem?_eq_getElem _
  obtain ⟨s, hs⟩ : ∃ s, s = l[k]'(by omega) := ⟨_, rfl⟩
  rw [← hs] at hg
  have hsz := hl s (List.mem_of_getElem? hg)
  have hcl : w.cell? ⟨b, o + k, none⟩ = some (sv s) := hcell k (sv s) (by rw [List.getElem?_map, hg]; rfl)
  have hnm : namedL l k = if plainB s then tb s else [] := by unfold namedL; rw [hg]
  have HN := Lib.hid hnm
  have HC := Lib.hid hcl
  have hck : (k : Int) < (n : Int) := by omega
  clear hcell hg hs hnm hr hll
  go_enter Tryz.func65, Tryz.ntmps65
  repeat (first | go_skip | go_guarded | go_step)
  refine (rPlain_any s w (by omega)).mono ?_
  rintro e w1 ⟨rfl, hb1⟩
  have hc1 := (hb1.cell hb).trans HC.out
  have HB1 := Lib.hid hb1
  clear hb1 HC hcl
  obtain ⟨pl, hpl⟩ : ∃ pl, plainB s = pl := ⟨_, rfl⟩
  rw [hpl]
  have HP := Lib.hid hpl
  clear hpl
  cases pl with
  | true =>
   dsimp only
   repeat (first | go_skip | go_guarded | go_step)
   go_ret
   exact ⟨by rw [HN.out, HP.out]; rfl, HB1.out⟩
  | false =>
   dsimp only
   repeat (first | go_skip | go_guarded | go_step)
   go_ret
   exact ⟨by rw [HN.out, HP.out]; rfl, HB1.out⟩
theorem termL_len {l : List ByteArray} (h : Short l) (t : Tm) : (termL l t).length ≤ 1000 := by
 unfold termL
 split
 ·
  have := digitsL_len 9 t.2.toNat (by have := t.2.toNat_lt; omega)
  simp
  omega
 ·
  exact namedL_len h _
set_option maxRecDepth 100000 in
set_option maxHeartbeats 8000000 in
theorem rTerm_any (A : Option Addr) (n c : Nat) (l : List ByteArray) (t : Tm) (w : World) (hr : Rd w w.heap.size 1 A n (l.map sv)) (hn : n ≤ 100000) (hl : Short l) :
  Calls Tryz.prog 66 #[.slice A n c, .agg #[.bool t.1, nv t.2]] w fun e w' => e = .returned (strV (termL l t)) ∧ Below w.heap.size w w' := by
 obtain ⟨v, i⟩ := t
 obtain ⟨W, hW, hb, hbw⟩ := box6 w [.bool v, nv i] 46
 have HW := Lib.hid hW
 have k0 := hb.read (Below.refl _ _) 0 rfl
 have k1 := hb.read (Below.refl _ _) 1 rfl
 have HB := Lib.hid hbw
 have HR := Lib.hid ((hr.below hbw).more hbw.size)
 clear hW hb hr hbw
 cases v with
 | true =>
  obtain ⟨X, hX, hXs⟩ : ∃ X : ByteArray, strV (digitsL i.toNat) = sv X ∧ X = ⟨(digitsL i.toNat).toArray⟩ := ⟨_, rfl, rfl⟩
  have s1 : X.size ≤ 10 := by rw [hXs]; exact digitsL_len 9 i.toNat (by have := i.toNat_lt; omega)
  have g1 : 1 + X.size ≤ maxLen := by unfold maxLen; omega
  have g2 : ¬ (maxLen < 1 + X.size) := by omega
  have HE := Lib.hid (show (⟨#[88]⟩ : ByteArray) ++ X = ⟨(termL l (true, i)).toArray⟩ by
   rw [hXs, show (⟨#[88]⟩ : ByteArray) = ⟨([88] : List UInt8).toArray⟩ from rfl, app_str]
   rfl)
  have HX := Lib.hid hX
  clear hX hXs
  go_enter Tryz.func66, Tryz.ntmps66
  go_upto_region 1 with (fail)
  rw [← HW.out]
  repeat (first | go_skip | go_guarded | go_step)
  refine (rDigits_any i.toNat i.toNat_lt W).mono ?_
  rintro e w1 ⟨rfl, hb1⟩
  rw [HX.out]
  have HB1 := Lib.hid (HB.out.trans (hb1.mono HB.out.size))
  clear hb1
  dsimp only
  repeat (first | go_skip | go_guarded | go_step)
  go_ret
  exact ⟨by show Ending.returned (sv ((⟨#[88]⟩ : ByteArray) ++ X)) = _; rw [HE.out], HB1.out⟩
 | false =>
  go_enter Tryz.func66, Tryz.ntmps66
  go_upto_region 1 with (fail)
  rw [← HW.out]
  repeat (first | go_skip | go_guarded | go_step)
  refine (rNamed_any A n c l i W HR.out hn hl).mono ?_
  rintro e w1 ⟨rfl, hb1⟩
  have HB1 := Lib.hid (HB.out.trans (hb1.mono HB.out.size))
  clear hb1
  dsimp only
  repeat (first | go_skip | go_guarded | go_step)
  go_ret
  exact ⟨rfl, HB1.out⟩
end Go.Proofs.YtoigpbajefkpoaaGreatDoor

set_option linter.unusedVariables false
set_option linter.unusedSimpArgs false
namespace Go.Proofs.YtoigpbajefkpoaaGreatDoor
open Go Go.RowKit

/-- An atom's terms as a text, without the last mark. -/
def argsO (names : List ByteArray) : List Tm → List UInt8
 | [] => []
 | t :: l => 40 :: (termL names t ++ l.flatMap (fun u => [44, 32] ++ termL names u))
theorem argsO_snoc {names : List ByteArray} {u : Tm} : ∀ l : List Tm, argsO names (l ++ [u]) = argsO names l ++ (if l = [] then [40] else [44, 32]) ++ termL names u
 | [] => by simp [argsO]
 | t :: l => by simp [argsO]
theorem argsL_of {names : List ByteArray} {l : List Tm} (h : l ≠ []) : argsL names l = argsO names l ++ [41] := by
 cases l with
 | nil => exact absurd rfl h
 | cons t l => simp [argsL, argsO]
theorem argsO_len {names : List ByteArray} (h : Short names) : ∀ l : List Tm, (argsO names l).length ≤ 1002 * l.length
 | [] => by simp [argsO]
 | t :: l => by
  have key : ∀ l : List Tm, (l.flatMap (fun u => [44, 32] ++ termL names u)).length ≤ 1002 * l.length := by
   intro l
   induction l with
   | nil => simp
   | cons u l ih =>
    have := termL_len h u
    rw [List.flatMap_cons, List.length_append, List.length_append, List.length_cons]
    simp only [List.length_cons, List.length_nil]
    omega
  have h1 := key l
  have h2 := termL_len h t
  simp only [argsO, List.length_cons, List.length_append]
  omega
set_option maxRecDepth 100000 in
set_option maxHeartbeats 8000000 in
theorem rSay8_any (A : Option Addr) (n c : Nat) (l : List ByteArray) (s0 : Bool) (t : Tm) (p : UInt32) (Ai : Option Addr) (ni ci : Nat) (as_ : List Tm) (w : World) (hr : Rd w w.heap.size 1 A n (l.map sv)) (hn : n ≤ 100000) (hl : Short l)
  (ha : RdT w w.heap.size Ai ni as_) (hni : ni ≤ 1000) :
  Calls Tryz.prog 40 #[.slice A n c, .agg #[.bool s0, .bool t.1, nv t.2, nv p, .slice Ai ni ci]] w fun e w' => e = .returned (strV (sayL l (s0, t, (p, as_)))) ∧ Below w.heap.size w w' := by
 obtain ⟨W, hW, hb, hbw⟩ := box6 w [.bool s0, .bool t.1, nv t.2, nv p, .slice Ai ni ci] 51
 have HW := Lib.hid hW
 have HBk := Lib.hid hb
 have k0 := hb.read (Below.refl _ _) 0 rfl
 have k1 := hb.read (Below.refl _ _) 1 rfl
 have k2 := hb.read (Below.refl _ _) 2 rfl
 have k3 := hb.read (Below.refl _ _) 3 rfl
 have HB := Lib.hid hbw
 have HR := Lib.hid ((hr.below hbw).more hbw.size)
 have HRW := HR
 have HA := Lib.hid ((ha.below hbw).more hbw.size)
 clear hW hb hr hbw ha
 cases s0 with
 | true =>
  go_enter Tryz.func40, Tryz.ntmps40
  go_upto_region 1 with (fail)
  rw [← HW.out]
  repeat (first | go_skip | go_guarded | go_step)
  refine (rTerm_any A n c l t W HR.out hn hl).mono ?_
  rintro e w1 ⟨rfl, hb1⟩
  obtain ⟨X, hX, hXs⟩ : ∃ X : ByteArray, strV (termL l t) = sv X ∧ X = ⟨(termL l t).toArray⟩ := ⟨_, rfl, rfl⟩
  rw [hX]
  have hx1 : X.size ≤ 1000 := by rw [hXs]; exact termL_len hl t
  have g11 : X.size + 6 ≤ maxLen := by unfold maxLen; omega
  have g12 : ¬ (maxLen < X.size + 6) := by omega
  have HX := Lib.hid hXs
  have HB1 := Lib.hid hb1
  have k3 := HBk.out.read hb1 3 rfl
  have HR1 := Lib.hid ((HR.out.below hb1).more hb1.size)
  clear hX hXs hb1 k0 k1 k2
  dsimp only
  go_upto_region 4 with (fail)
  obtain ⟨P, hP, hPs⟩ : ∃ P : ByteArray, P = X ++ ⟨#[32, 115, 97, 121, 115, 32]⟩ ∧ P = ⟨(termL l t ++ saysW).toArray⟩ := ⟨_, rfl, by rw [HX.out, show (⟨#[32, 115, 97, 121, 115, 32]⟩ : ByteArray) = ⟨(saysW).toArray⟩ from rfl, app_str]⟩
  rw [← hP]
  have hp1 : P.size ≤ 1010 := by rw [hPs]; show (termL l t ++ saysW).length ≤ 1010; rw [List.length_append]; have := termL_len hl t; simp; omega
  have HP := Lib.hid hPs
  clear hP hPs
  repeat (first | go_skip | go_guarded | go_step)
  refine (rNamed_any A n c l p w1 HR1.out hn hl).mono ?_
  rintro e w2 ⟨rfl, hb2⟩
  obtain ⟨Y, hY, hYs⟩ : ∃ Y : ByteArray, strV (namedL l p.toNat) = sv Y ∧ Y = ⟨(namedL l p.toNat).toArray⟩ := ⟨_, rfl, rfl⟩
  rw [hY]
  have hy1 : Y.size ≤ 1000 := by rw [hYs]; exact namedL_len hl _
  have g21 : P.size + Y.size ≤ maxLen := by unfold maxLen; omega
  have g22 : ¬ (maxLen < P.size + Y.size) := by omega
  have HY := Lib.hid hYs
  have HB2 := Lib.hid (HB1.out.trans (hb2.mono HB1.out.size))
  have HR2 := Lib.hid ((HR1.out.below hb2).more hb2.size)
  clear hY hYs hb2 k3
  dsimp only
  go_upto_region 5 with (fail)
  obtain ⟨T0, hT0, hT0s⟩ : ∃ T0 : ByteArray, T0 = P ++ Y ∧ T0 = ⟨(termL l t ++ saysW ++ namedL l p.toNat).toArray⟩ := ⟨_, rfl, by rw [HP.out, HY.out, app_str]⟩
  rw [← hT0]
  have HT0 := Lib.hid hT0s
  clear hT0 hT0s g21 g22 hp1 hy1
  repeat (first | go_skip | go_guarded | go_step)
  go_loopw [5, 6] (fun pp q wr => ∃ (i : Nat) (T : ByteArray), i ≤ ni ∧ pp = sv T ∧ q = .int .i64 (i : Int) ∧ T = ⟨(termL l t ++ saysW ++ namedL l p.toNat ++ argsO l (as_.take i)).toArray⟩ ∧ Below W.heap.size W wr) (fun _ q _ => ni - (intOf q).toNat)
  case atStart => exact ⟨0, T0, by omega, rfl, rfl, by rw [HT0.out]; simp [argsO], HB2.out⟩
  case round =>
   obtain ⟨i, T, hi, rfl, rfl, hT, hbr⟩ := hrel
   have hTs : T.size ≤ 2010 + 1002 * i := by
    have h0 : T.size = (termL l t ++ saysW ++ namedL l p.toNat ++ argsO l (as_.take i)).length := by rw [hT]; rfl
    rw [h0, List.length_append, List.length_append]
    have h1 := argsO_len hl (as_.take i)
    have h2 := namedL_len hl p.toNat
    have h3 := termL_len hl t
    have h4 : (as_.take i).length ≤ i := by simp; omega
    have h5 : 1002 * (as_.take i).length ≤ 1002 * i := Nat.mul_le_mul_left _ h4
    simp
    omega
   have HT := Lib.hid hT
   have HBR := Lib.hid hbr
   have i4 := HBk.out.read hbr 4 rfl
   clear hT hbr
   by_cases hlt : i < ni
   ·
    have hci : (i : Int) < (ni : Int) := by omega
    obtain ⟨b, o, u, hA, hbb, hx, hc0, hc1⟩ := rdT_at (HA.out.below HBR.out) hlt
    subst hA
    have HX0 := Lib.hid hx
    have HRr := Lib.hid ((HRW.out.below HBR.out).more HBR.out.size)
    clear hx
    rcases Nat.eq_zero_or_pos i with h0 | h0
    ·
     subst h0
     simp only [Nat.zero_mul, Nat.add_zero] at hc0 hc1
     have g31 : T.size + 1 ≤ maxLen := by unfold maxLen; omega
     have g32 : ¬ (maxLen < T.size + 1) := by unfold maxLen; omega
     go_upto_region 11 with (fail)
     obtain ⟨T1, hT1⟩ : ∃ T1 : ByteArray, T1 = T ++ ⟨#[40]⟩ := ⟨_, rfl⟩
     rw [← hT1]
     have hs1 : T1.size = T.size + 1 := by rw [hT1, ByteArray.size_append]; rfl
     have HT1 := Lib.hid hT1
     clear hT1 g31 g32
     repeat (first | go_skip | go_guarded | go_step)
     refine (rTerm_any A n c l u wr HRr.out hn hl).mono ?_
     rintro e w3 ⟨rfl, hb3⟩
     obtain ⟨Z, hZ, hZs⟩ : ∃ Z : ByteArray, strV (termL l u) = sv Z ∧ Z = ⟨(termL l u).toArray⟩ := ⟨_, rfl, rfl⟩
     rw [hZ]
     have hz1 : Z.size ≤ 1000 := by rw [hZs]; exact termL_len hl u
     have g41 : T1.size + Z.size ≤ maxLen := by unfold maxLen; omega
     have g42 : ¬ (maxLen < T1.size + Z.size) := by unfold maxLen; omega
     have HZ := Lib.hid hZs
     have HB3 := Lib.hid (HBR.out.trans (hb3.mono HBR.out.size))
     clear hZ hZs hb3
     dsimp only
     repeat (first | go_skip | go_guarded | go_step)
     go_roundw
     case rel =>
      refine ⟨1, T1 ++ Z, by omega, rfl, by go_num, ?_, HB3.out⟩
      rw [HT1.out, HT.out, HZ.out, show (⟨#[40]⟩ : ByteArray) = ⟨([40] : List UInt8).toArray⟩ from rfl, app_str, app_str]
      rw [List.take_add_one (i := 0), HX0.out]
      simp [argsO]
     case measure => simp [intOf]; omega
    ·
     have hi0 : ((i : Int) == 0) = false := by simp; omega
     have g31 : T.size + 2 ≤ maxLen := by unfold maxLen; omega
     have g32 : ¬ (maxLen < T.size + 2) := by unfold maxLen; omega
     go_upto_region 11 with (fail)
     obtain ⟨T1, hT1⟩ : ∃ T1 : ByteArray, T1 = T ++ ⟨#[44, 32]⟩ := ⟨_, rfl⟩
     rw [← hT1]
     have hs1 : T1.size = T.size + 2 := by rw [hT1, ByteArray.size_append]; rfl
     have HT1 := Lib.hid hT1
     clear hT1 g31 g32
     repeat (first | go_skip | go_guarded | go_step)
     refine (rTerm_any A n c l u wr HRr.out hn hl).mono ?_
     rintro e w3 ⟨rfl, hb3⟩
     obtain ⟨Z, hZ, hZs⟩ : ∃ Z : ByteArray, strV (termL l u) = sv Z ∧ Z = ⟨(termL l u).toArray⟩ := ⟨_, rfl, rfl⟩
     rw [hZ]
     have hz1 : Z.size ≤ 1000 := by rw [hZs]; exact termL_len hl u
     have g41 : T1.size + Z.size ≤ maxLen := by unfold maxLen; omega
     have g42 : ¬ (maxLen < T1.size + Z.size) := by unfold maxLen; omega
     have HZ := Lib.hid hZs
     have HB3 := Lib.hid (HBR.out.trans (hb3.mono HBR.out.size))
     clear hZ hZs hb3
     dsimp only
     repeat (first | go_skip | go_guarded | go_step)
     go_roundw
     case rel =>
      refine ⟨i + 1, T1 ++ Z, by omega, rfl, by go_num, ?_, HB3.out⟩
      rw [HT1.out, HT.out, HZ.out, show (⟨#[44, 32]⟩ : ByteArray) = ⟨([44, 32] : List UInt8).toArray⟩ from rfl, app_str, app_str]
      rw [List.take_add_one, HX0.out, Option.toList_some, argsO_snoc, if_neg (by intro h; have h2 := congrArg List.length h; have h3 := rdT_len (HA.out); rw [List.length_take] at h2; simp only [List.length_nil] at h2; omega)]
      simp [argsO]
     case measure => simp [intOf]; omega
   ·
    obtain rfl : i = ni := by omega
    have hci : ¬ (i : Int) < (i : Int) := by omega
    have hall : as_.take i = as_ := List.take_of_length_le (by rw [rdT_len HA.out]; exact Nat.le_refl _)
    have HT' := Lib.hid (show T = ⟨(termL l t ++ saysW ++ namedL l p.toNat ++ argsO l as_).toArray⟩ by rw [HT.out, hall])
    clear hall HT
    rcases Nat.eq_zero_or_pos i with h0 | h0
    ·
     have has : as_ = [] := List.length_eq_zero_iff.1 (by rw [rdT_len HA.out]; exact h0)
     have HAS := Lib.hid has
     clear has
     subst h0
     repeat (first | go_skip | go_guarded | go_step)
     go_ret
     refine ⟨?_, HB.out.trans (HBR.out.mono HB.out.size)⟩
     show Ending.returned (sv T) = _
     rw [HT'.out, HAS.out]
     simp [sayL, argsL, argsO]
    ·
     have hip : (0 : Int) < (i : Int) := by omega
     have g51 : T.size + 1 ≤ maxLen := by unfold maxLen; omega
     have g52 : ¬ (maxLen < T.size + 1) := by unfold maxLen; omega
     have has : as_ ≠ [] := by
      intro h
      have := rdT_len HA.out
      rw [h] at this
      simp at this
      omega
     have HAS := Lib.hid has
     clear has
     repeat (first | go_skip | go_guarded | go_step)
     go_ret
     refine ⟨?_, HB.out.trans (HBR.out.mono HB.out.size)⟩
     show Ending.returned (sv (T ++ ⟨#[41]⟩)) = _
     rw [HT'.out, show (⟨#[41]⟩ : ByteArray) = ⟨([41] : List UInt8).toArray⟩ from rfl, app_str]
     simp [sayL, argsL_of HAS.out]
 | false =>
  go_enter Tryz.func40, Tryz.ntmps40
  go_upto_region 1 with (fail)
  rw [← HW.out]
  go_upto_region 4 with (fail)
  obtain ⟨P, hP, hPs⟩ : ∃ P : ByteArray, P = ⟨#[]⟩ ∧ P = ⟨([] : List UInt8).toArray⟩ := ⟨_, rfl, rfl⟩
  rw [← hP]
  have hp1 : P.size ≤ 1010 := by rw [hPs]; decide
  have HP := Lib.hid hPs
  have HB1 := Lib.hid (Below.refl W.heap.size W)
  have HR1 := HR
  clear hP hPs k0 k1 k2
  repeat (first | go_skip | go_guarded | go_step)
  refine (rNamed_any A n c l p W HR1.out hn hl).mono ?_
  rintro e w2 ⟨rfl, hb2⟩
  obtain ⟨Y, hY, hYs⟩ : ∃ Y : ByteArray, strV (namedL l p.toNat) = sv Y ∧ Y = ⟨(namedL l p.toNat).toArray⟩ := ⟨_, rfl, rfl⟩
  rw [hY]
  have hy1 : Y.size ≤ 1000 := by rw [hYs]; exact namedL_len hl _
  have g21 : P.size + Y.size ≤ maxLen := by unfold maxLen; omega
  have g22 : ¬ (maxLen < P.size + Y.size) := by omega
  have HY := Lib.hid hYs
  have HB2 := Lib.hid (HB1.out.trans (hb2.mono HB1.out.size))
  have HR2 := Lib.hid ((HR1.out.below hb2).more hb2.size)
  clear hY hYs hb2 k3
  dsimp only
  go_upto_region 5 with (fail)
  obtain ⟨T0, hT0, hT0s⟩ : ∃ T0 : ByteArray, T0 = P ++ Y ∧ T0 = ⟨([] ++ namedL l p.toNat).toArray⟩ := ⟨_, rfl, by rw [HP.out, HY.out, app_str]⟩
  rw [← hT0]
  have HT0 := Lib.hid hT0s
  clear hT0 hT0s g21 g22 hp1 hy1
  repeat (first | go_skip | go_guarded | go_step)
  go_loopw [5, 6] (fun pp q wr => ∃ (i : Nat) (T : ByteArray), i ≤ ni ∧ pp = sv T ∧ q = .int .i64 (i : Int) ∧ T = ⟨([] ++ namedL l p.toNat ++ argsO l (as_.take i)).toArray⟩ ∧ Below W.heap.size W wr) (fun _ q _ => ni - (intOf q).toNat)
  case atStart => exact ⟨0, T0, by omega, rfl, rfl, by rw [HT0.out]; simp [argsO], HB2.out⟩
  case round =>
   obtain ⟨i, T, hi, rfl, rfl, hT, hbr⟩ := hrel
   have hTs : T.size ≤ 2010 + 1002 * i := by
    have h0 : T.size = ([] ++ namedL l p.toNat ++ argsO l (as_.take i)).length := by rw [hT]; rfl
    rw [h0, List.length_append, List.length_append]
    have h1 := argsO_len hl (as_.take i)
    have h2 := namedL_len hl p.toNat
    have h3 := termL_len hl t
    have h4 : (as_.take i).length ≤ i := by simp; omega
    have h5 : 1002 * (as_.take i).length ≤ 1002 * i := Nat.mul_le_mul_left _ h4
    simp
    omega
   have HT := Lib.hid hT
   have HBR := Lib.hid hbr
   have i4 := HBk.out.read hbr 4 rfl
   clear hT hbr
   by_cases hlt : i < ni
   ·
    have hci : (i : Int) < (ni : Int) := by omega
    obtain ⟨b, o, u, hA, hbb, hx, hc0, hc1⟩ := rdT_at (HA.out.below HBR.out) hlt
    subst hA
    have HX0 := Lib.hid hx
    have HRr := Lib.hid ((HRW.out.below HBR.out).more HBR.out.size)
    clear hx
    rcases Nat.eq_zero_or_pos i with h0 | h0
    ·
     subst h0
     simp only [Nat.zero_mul, Nat.add_zero] at hc0 hc1
     have g31 : T.size + 1 ≤ maxLen := by unfold maxLen; omega
     have g32 : ¬ (maxLen < T.size + 1) := by unfold maxLen; omega
     go_upto_region 11 with (fail)
     obtain ⟨T1, hT1⟩ : ∃ T1 : ByteArray, T1 = T ++ ⟨#[40]⟩ := ⟨_, rfl⟩
     rw [← hT1]
     have hs1 : T1.size = T.size + 1 := by rw [hT1, ByteArray.size_append]; rfl
     have HT1 := Lib.hid hT1
     clear hT1 g31 g32
     repeat (first | go_skip | go_guarded | go_step)
     refine (rTerm_any A n c l u wr HRr.out hn hl).mono ?_
     rintro e w3 ⟨rfl, hb3⟩
     obtain ⟨Z, hZ, hZs⟩ : ∃ Z : ByteArray, strV (termL l u) = sv Z ∧ Z = ⟨(termL l u).toArray⟩ := ⟨_, rfl, rfl⟩
     rw [hZ]
     have hz1 : Z.size ≤ 1000 := by rw [hZs]; exact termL_len hl u
     have g41 : T1.size + Z.size ≤ maxLen := by unfold maxLen; omega
     have g42 : ¬ (maxLen < T1.size + Z.size) := by unfold maxLen; omega
     have HZ := Lib.hid hZs
     have HB3 := Lib.hid (HBR.out.trans (hb3.mono HBR.out.size))
     clear hZ hZs hb3
     dsimp only
     repeat (first | go_skip | go_guarded | go_step)
     go_roundw
     case rel =>
      refine ⟨1, T1 ++ Z, by omega, rfl, by go_num, ?_, HB3.out⟩
      rw [HT1.out, HT.out, HZ.out, show (⟨#[40]⟩ : ByteArray) = ⟨([40] : List UInt8).toArray⟩ from rfl, app_str, app_str]
      rw [List.take_add_one (i := 0), HX0.out]
      simp [argsO]
     case measure => simp [intOf]; omega
    ·
     have hi0 : ((i : Int) == 0) = false := by simp; omega
     have g31 : T.size + 2 ≤ maxLen := by unfold maxLen; omega
     have g32 : ¬ (maxLen < T.size + 2) := by unfold maxLen; omega
     go_upto_region 11 with (fail)
     obtain ⟨T1, hT1⟩ : ∃ T1 : ByteArray, T1 = T ++ ⟨#[44, 32]⟩ := ⟨_, rfl⟩
     rw [← hT1]
     have hs1 : T1.size = T.size + 2 := by rw [hT1, ByteArray.size_append]; rfl
     have HT1 := Lib.hid hT1
     clear hT1 g31 g32
     repeat (first | go_skip | go_guarded | go_step)
     refine (rTerm_any A n c l u wr HRr.out hn hl).mono ?_
     rintro e w3 ⟨rfl, hb3⟩
     obtain ⟨Z, hZ, hZs⟩ : ∃ Z : ByteArray, strV (termL l u) = sv Z ∧ Z = ⟨(termL l u).toArray⟩ := ⟨_, rfl, rfl⟩
     rw [hZ]
     have hz1 : Z.size ≤ 1000 := by rw [hZs]; exact termL_len hl u
     have g41 : T1.size + Z.size ≤ maxLen := by unfold maxLen; omega
     have g42 : ¬ (maxLen < T1.size + Z.size) := by unfold maxLen; omega
     have HZ := Lib.hid hZs
     have HB3 := Lib.hid (HBR.out.trans (hb3.mono HBR.out.size))
     clear hZ hZs hb3
     dsimp only
     repeat (first | go_skip | go_guarded | go_step)
     go_roundw
     case rel =>
      refine ⟨i + 1, T1 ++ Z, by omega, rfl, by go_num, ?_, HB3.out⟩
      rw [HT1.out, HT.out, HZ.out, show (⟨#[44, 32]⟩ : ByteArray) = ⟨([44, 32] : List UInt8).toArray⟩ from rfl, app_str, app_str]
      rw [List.take_add_one, HX0.out, Option.toList_some, argsO_snoc, if_neg (by intro h; have h2 := congrArg List.length h; have h3 := rdT_len (HA.out); rw [List.length_take] at h2; simp only [List.length_nil] at h2; omega)]
      simp [argsO]
     case measure => simp [intOf]; omega
   ·
    obtain rfl : i = ni := by omega
    have hci : ¬ (i : Int) < (i : Int) := by omega
    have hall : as_.take i = as_ := List.take_of_length_le (by rw [rdT_len HA.out]; exact Nat.le_refl _)
    have HT' := Lib.hid (show T = ⟨([] ++ namedL l p.toNat ++ argsO l as_).toArray⟩ by rw [HT.out, hall])
    clear hall HT
    rcases Nat.eq_zero_or_pos i with h0 | h0
    ·
     have has : as_ = [] := List.length_eq_zero_iff.1 (by rw [rdT_len HA.out]; exact h0)
     have HAS := Lib.hid has
     clear has
     subst h0
     repeat (first | go_skip | go_guarded | go_step)
     go_ret
     refine ⟨?_, HB.out.trans (HBR.out.mono HB.out.size)⟩
     show Ending.returned (sv T) = _
     rw [HT'.out, HAS.out]
     simp [sayL, argsL, argsO]
    ·
     have hip : (0 : Int) < (i : Int) := by omega
     have g51 : T.size + 1 ≤ maxLen := by unfold maxLen; omega
     have g52 : ¬ (maxLen < T.size + 1) := by unfold maxLen; omega
     have has : as_ ≠ [] := by
      intro h
      have := rdT_len HA.out
      rw [h] at this
      simp at this
      omega
     have HAS := Lib.hid has
     clear has
     repeat (first | go_skip | go_guarded | go_step)
     go_ret
     refine ⟨?_, HB.out.trans (HBR.out.mono HB.out.size)⟩
     show Ending.returned (sv (T ++ ⟨#[41]⟩)) = _
     rw [HT'.out, show (⟨#[41]⟩ : ByteArray) = ⟨([41] : List UInt8).toArray⟩ from rfl, app_str]
     simp [sayL, argsL_of HAS.out]
theorem empty_ne {s : ByteArray} {l : List UInt8} (h : s = ⟨l.toArray⟩) (hl : l ≠ []) : (s.toList == (⟨#[]⟩ : ByteArray).toList) = false := by
 refine neS fun e => hl ?_
 rw [e] at h
 have h2 := congrArg tb h
 exact h2.symm
theorem toList_nil {s : ByteArray} {l : List UInt8} (h : s = ⟨l.toArray⟩) (hl : l ≠ []) : s.toList ≠ [] := by
 rw [ByteArray.toList_eq, h]
 exact hl
theorem empty_ne1 {s : ByteArray} {l : List UInt8} (h : s = ⟨l.toArray⟩) (hl : l ≠ []) : s.toList.isEmpty = false := by
 have := toList_nil h hl
 cases hs : s.toList with
 | nil => exact absurd hs this
 | cons a b => rfl
theorem empty_ne2 {s : ByteArray} {l : List UInt8} (h : s = ⟨l.toArray⟩) (hl : l ≠ []) : (s.toList == []) = false := by
 have := toList_nil h hl
 cases hs : s.toList with
 | nil => exact absurd hs this
 | cons a b => rfl
theorem empty_ne3 {s : ByteArray} {l : List UInt8} (h : s = ⟨l.toArray⟩) (hl : l ≠ []) : ¬ s.toList = [] := toList_nil h hl
theorem knownB_pred {names : List ByteArray} {s0 : Bool} {t : Tm} {p : UInt32} {as_ : List Tm} (h : namedL names p.toNat = []) : knownB names (s0, t, (p, as_)) = false := by
 simp [knownB, h]
theorem knownB_who {names : List ByteArray} {t : Tm} {p : UInt32} {as_ : List Tm} (h : termL names t = []) : knownB names (true, t, (p, as_)) = false := by
 simp [knownB, h]
theorem knownB_yes {names : List ByteArray} {t : Tm} {p : UInt32} {as_ : List Tm} (h : namedL names p.toNat ≠ []) (h1 : termL names t ≠ []) : knownB names (true, t, (p, as_)) = as_.all fun u => decide (termL names u ≠ []) := by
 simp [knownB, h, h1]
theorem knownB_no {names : List ByteArray} {t : Tm} {p : UInt32} {as_ : List Tm} (h : namedL names p.toNat ≠ []) : knownB names (false, t, (p, as_)) = as_.all fun u => decide (termL names u ≠ []) := by
 simp [knownB, h]
set_option maxRecDepth 100000 in
set_option maxHeartbeats 8000000 in
theorem rKnown_any (A : Option Addr) (n c : Nat) (l : List ByteArray) (s0 : Bool) (t : Tm) (p : UInt32) (Ai : Option Addr) (ni ci : Nat) (as_ : List Tm) (w : World) (hr : Rd w w.heap.size 1 A n (l.map sv)) (hn : n ≤ 100000) (hl : Short l)
  (ha : RdT w w.heap.size Ai ni as_) (hni : ni ≤ 1000) :
  Calls Tryz.prog 39 #[.slice A n c, .agg #[.bool s0, .bool t.1, nv t.2, nv p, .slice Ai ni ci]] w fun e w' => e = .returned (.bool (knownB l (s0, t, (p, as_)))) ∧ Below w.heap.size w w' := by
 obtain ⟨W, hW, hb, hbw⟩ := box6 w [.bool s0, .bool t.1, nv t.2, nv p, .slice Ai ni ci] 51
 have HW := Lib.hid hW
 have HBk := Lib.hid hb
 have k3 := hb.read (Below.refl _ _) 3 rfl
 have HB := Lib.hid hbw
 have HR := Lib.hid ((hr.below hbw).more hbw.size)
 have HRW := HR
 have HA := Lib.hid ((ha.below hbw).more hbw.size)
 clear hW hb hr hbw ha
 go_enter Tryz.func39, Tryz.ntmps39
 go_upto_region 1 with (fail)
 rw [← HW.out]
 repeat (first | go_skip | go_guarded | go_step)
 refine (rNamed_any A n c l p W HR.out hn hl).mono ?_
 rintro e w1 ⟨rfl, hb1⟩
 have HB1 := Lib.hid hb1
 have k0 := HBk.out.read hb1 0 rfl
 have k1 := HBk.out.read hb1 1 rfl
 have k2 := HBk.out.read hb1 2 rfl
 have HR1 := Lib.hid ((HR.out.below hb1).more hb1.size)
 clear hb1 k3
 obtain ⟨Y, hY, hYs⟩ : ∃ Y : ByteArray, strV (namedL l p.toNat) = sv Y ∧ Y = ⟨(namedL l p.toNat).toArray⟩ := ⟨_, rfl, rfl⟩
 rw [hY]
 clear hY
 by_cases hnm : namedL l p.toNat = []
 ·
  have HV := Lib.hid (knownB_pred (s0 := s0) (t := t) (as_ := as_) hnm)
  rw [hnm] at hYs
  have hy0 : Y = ⟨#[]⟩ := hYs
  subst hy0
  clear hYs hnm
  dsimp only
  repeat (first | go_skip | go_guarded | go_step)
  go_ret
  exact ⟨by rw [HV.out]; rfl, HB.out.trans (HB1.out.mono HB.out.size)⟩
 ·
  have hy0 := empty_ne hYs hnm
  have hy1 := empty_ne1 hYs hnm
  have hy2 := empty_ne2 hYs hnm
  have hy3 := empty_ne3 hYs hnm
  have HNM := Lib.hid hnm
  clear hYs hnm
  cases s0 with
  | true =>
   dsimp only
   repeat (first | go_skip | go_guarded | go_step)
   refine (rTerm_any A n c l t w1 HR1.out hn hl).mono ?_
   rintro e w2 ⟨rfl, hb2⟩
   have HB2 := Lib.hid (HB1.out.trans (hb2.mono HB1.out.size))
   clear hb2
   obtain ⟨X, hX, hXs⟩ : ∃ X : ByteArray, strV (termL l t) = sv X ∧ X = ⟨(termL l t).toArray⟩ := ⟨_, rfl, rfl⟩
   rw [hX]
   clear hX
   by_cases htm : termL l t = []
   ·
    have HV := Lib.hid (knownB_who (p := p) (as_ := as_) htm)
    rw [htm] at hXs
    have hx0 : X = ⟨#[]⟩ := hXs
    subst hx0
    clear hXs htm
    dsimp only
    repeat (first | go_skip | go_guarded | go_step)
    go_ret
    exact ⟨by rw [HV.out]; rfl, HB.out.trans (HB2.out.mono HB.out.size)⟩
   ·
    have hx0 := empty_ne hXs htm
    have hx1 := empty_ne1 hXs htm
    have hx2 := empty_ne2 hXs htm
    have hx3 := empty_ne3 hXs htm
    have HV := Lib.hid (knownB_yes (as_ := as_) HNM.out htm)
    clear hXs htm
    dsimp only
    repeat (first | go_skip | go_guarded | go_step)
    go_loopw [5] (fun q wr => ∃ (i : Nat), i ≤ ni ∧ q = .int .i64 (i : Int) ∧ ((as_.take i).all fun u => decide (termL l u ≠ [])) = true ∧ Below W.heap.size W wr) (fun q _ => ni - (intOf q).toNat)
    case atStart => exact ⟨0, by omega, rfl, rfl, HB2.out⟩
    case round =>
     obtain ⟨i, hi, rfl, hal, hbr⟩ := hrel
     have HAL := Lib.hid hal
     have HBR := Lib.hid hbr
     have i4 := HBk.out.read hbr 4 rfl
     clear hal hbr
     by_cases hlt : i < ni
     ·
      have hci : (i : Int) < (ni : Int) := by omega
      obtain ⟨b, o, u, hA, hbb, hx, hc0, hc1⟩ := rdT_at (HA.out.below HBR.out) hlt
      subst hA
      have HX0 := Lib.hid hx
      have HRr := Lib.hid ((HRW.out.below HBR.out).more HBR.out.size)
      clear hx
      repeat (first | go_skip | go_guarded | go_step)
      refine (rTerm_any A n c l u wr HRr.out hn hl).mono ?_
      rintro e w3 ⟨rfl, hb3⟩
      have HB3 := Lib.hid (HBR.out.trans (hb3.mono HBR.out.size))
      clear hb3
      obtain ⟨Z, hZ, hZs⟩ : ∃ Z : ByteArray, strV (termL l u) = sv Z ∧ Z = ⟨(termL l u).toArray⟩ := ⟨_, rfl, rfl⟩
      rw [hZ]
      clear hZ
      by_cases htm : termL l u = []
      ·
       have hv2 : (as_.all fun u => decide (termL l u ≠ [])) = false := by
        rw [List.all_eq_false]
        exact ⟨u, List.mem_of_getElem? HX0.out, by simp [htm]⟩
       have HV2 := Lib.hid (HV.out.trans hv2)
       rw [htm] at hZs
       have hz0 : Z = ⟨#[]⟩ := hZs
       subst hz0
       clear hZs htm hv2
       dsimp only
       repeat (first | go_skip | go_guarded | go_step)
       go_ret
       exact ⟨by rw [HV2.out]; rfl, HB.out.trans (HB3.out.mono HB.out.size)⟩
      ·
       have hz0 := empty_ne hZs htm
       have hz1 := empty_ne1 hZs htm
       have hz2 := empty_ne2 hZs htm
       have hz3 := empty_ne3 hZs htm
       have HTM := Lib.hid htm
       clear hZs htm
       dsimp only
       repeat (first | go_skip | go_guarded | go_step)
       go_roundw
       case rel => exact ⟨i + 1, by omega, by go_num, all_upto HX0.out HAL.out (by simp [HTM.out]), HB3.out⟩
       case measure => simp [intOf]; omega
     ·
      obtain rfl : i = ni := by omega
      have hci : ¬ (i : Int) < (i : Int) := by omega
      have hall := all_whole (by rw [rdT_len HA.out]; exact Nat.le_refl _) HAL.out
      have HV2 := Lib.hid (HV.out.trans hall)
      clear hall
      repeat (first | go_skip | go_guarded | go_step)
      go_ret
      exact ⟨by rw [HV2.out]; rfl, HB.out.trans (HBR.out.mono HB.out.size)⟩
  | false =>
   have HV := Lib.hid (knownB_no (t := t) (as_ := as_) HNM.out)
   have HB2 := HB1
   dsimp only
   repeat (first | go_skip | go_guarded | go_step)
   go_loopw [5] (fun q wr => ∃ (i : Nat), i ≤ ni ∧ q = .int .i64 (i : Int) ∧ ((as_.take i).all fun u => decide (termL l u ≠ [])) = true ∧ Below W.heap.size W wr) (fun q _ => ni - (intOf q).toNat)
   case atStart => exact ⟨0, by omega, rfl, rfl, HB2.out⟩
   case round =>
    obtain ⟨i, hi, rfl, hal, hbr⟩ := hrel
    have HAL := Lib.hid hal
    have HBR := Lib.hid hbr
    have i4 := HBk.out.read hbr 4 rfl
    clear hal hbr
    by_cases hlt : i < ni
    ·
     have hci : (i : Int) < (ni : Int) := by omega
     obtain ⟨b, o, u, hA, hbb, hx, hc0, hc1⟩ := rdT_at (HA.out.below HBR.out) hlt
     subst hA
     have HX0 := Lib.hid hx
     have HRr := Lib.hid ((HRW.out.below HBR.out).more HBR.out.size)
     clear hx
     repeat (first | go_skip | go_guarded | go_step)
     refine (rTerm_any A n c l u wr HRr.out hn hl).mono ?_
     rintro e w3 ⟨rfl, hb3⟩
     have HB3 := Lib.hid (HBR.out.trans (hb3.mono HBR.out.size))
     clear hb3
     obtain ⟨Z, hZ, hZs⟩ : ∃ Z : ByteArray, strV (termL l u) = sv Z ∧ Z = ⟨(termL l u).toArray⟩ := ⟨_, rfl, rfl⟩
     rw [hZ]
     clear hZ
     by_cases htm : termL l u = []
     ·
      have hv2 : (as_.all fun u => decide (termL l u ≠ [])) = false := by
       rw [List.all_eq_false]
       exact ⟨u, List.mem_of_getElem? HX0.out, by simp [htm]⟩
      have HV2 := Lib.hid (HV.out.trans hv2)
      rw [htm] at hZs
      have hz0 : Z = ⟨#[]⟩ := hZs
      subst hz0
      clear hZs htm hv2
      dsimp only
      repeat (first | go_skip | go_guarded | go_step)
      go_ret
      exact ⟨by rw [HV2.out]; rfl, HB.out.trans (HB3.out.mono HB.out.size)⟩
     ·
      have hz0 := empty_ne hZs htm
      have hz1 := empty_ne1 hZs htm
      have hz2 := empty_ne2 hZs htm
      have hz3 := empty_ne3 hZs htm
      have HTM := Lib.hid htm
      clear hZs htm
      dsimp only
      repeat (first | go_skip | go_guarded | go_step)
      go_roundw
      case rel => exact ⟨i + 1, by omega, by go_num, all_upto HX0.out HAL.out (by simp [HTM.out]), HB3.out⟩
      case measure => simp [intOf]; omega
    ·
     obtain rfl : i = ni := by omega
     have hci : ¬ (i : Int) < (i : Int) := by omega
     have hall := all_whole (by rw [rdT_len HA.out]; exact Nat.le_refl _) HAL.out
     have HV2 := Lib.hid (HV.out.trans hall)
     clear hall
     repeat (first | go_skip | go_guarded | go_step)
     go_ret
     exact ⟨by rw [HV2.out]; rfl, HB.out.trans (HBR.out.mono HB.out.size)⟩
end Go.Proofs.YtoigpbajefkpoaaGreatDoor

