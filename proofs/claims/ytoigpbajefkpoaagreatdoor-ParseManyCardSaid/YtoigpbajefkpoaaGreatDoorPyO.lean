/- Texts, packed: PbI PbJ PbK -/
import Derived.Test.YtoigpbajefkpoaaGreatDoorPyN
import Derived.Deep.QuietTactic
import Derived.BigQuiet
import Derived.Recover
set_option linter.unusedVariables false
set_option linter.unusedSimpArgs false
namespace Go.Proofs.YtoigpbajefkpoaaGreatDoor
open Go Go.RowKit Go.Extern.Stop Go.Stop Go.Extern

set_option maxRecDepth 100000 in
set_option maxHeartbeats 4000000 in
theorem As_any (x y : Int) (t : Nat) (old0 old1 : Value) (w : World) (hL : Laid w) (ht : Bk w t WT [old0, old1]) :
  Calls Tryz.prog 77 #[.iface WT (.agg #[.int .i64 x, .int .i64 y]), .iface WP (.pointer (some ⟨t, 0, none⟩))] w fun e w' => e = .returned (.bool true) ∧ Bk w' t WT [.int .i64 x, .int .i64 y] ∧ Turn (fun k => k = t) w w' := by
 have h96 := @run_callFunc_extern Tryz.prog 96 _ (fun args => ReflectliteValue.unpack (args.getD 0 (.tuple #[]))) Tryz.func96 (by kernel_rfl) (by kernel_rfl) (by kernel_rfl) (by kernel_rfl)
 have h97 := @run_callFunc_extern Tryz.prog 97 _ (ReflectliteValue.methodAny (ReflectliteValue.valueError "reflectlite.Value.Type" 0) (fun t _ _ _ => ReflectliteType.toType t)) Tryz.func97 (by kernel_rfl) (by kernel_rfl) (by kernel_rfl) (by kernel_rfl)
 have h98 := @run_callFunc_extern Tryz.prog 98 _ (ReflectliteValue.method (ReflectliteValue.valueError "reflectlite.Value.IsNil" 0) ReflectliteValue.isNil) Tryz.func98 (by kernel_rfl) (by kernel_rfl) (by kernel_rfl) (by kernel_rfl)
 have h158 := @run_callFunc_extern Tryz.prog 158 _ (ReflectliteType.abiMethod fun t => do pure (.int .u8 (← Rtype.kind t))) Tryz.func158 (by kernel_rfl) (by kernel_rfl) (by kernel_rfl) (by kernel_rfl)
 have h170 := @run_callFunc_extern Tryz.prog 170 _ (ReflectliteType.method ReflectliteType.elem) Tryz.func170 (by kernel_rfl) (by kernel_rfl) (by kernel_rfl) (by kernel_rfl)
 have h171 := @run_callFunc_extern Tryz.prog 171 _ (ReflectliteType.relation "Implements" ReflectliteType.implements_) Tryz.func171 (by kernel_rfl) (by kernel_rfl) (by kernel_rfl) (by kernel_rfl)
 have f6 := valueOfP
 have f7 := typeP
 have mK := methodKind
 have mE := methodElem
 have mI := methodImplements
 have kP := kindP
 have kW := kindW
 have eP := elemP
 have iW := implementsW
 have HT := Lib.hid ht
 have HL := Lib.hid hL
 clear ht hL
 go_enter Tryz.func77, Tryz.ntmps77
 go_upto_region 6 with (fail)
 obtain ⟨X, a, b, hX, hbx, ha, hb, hba, hbb⟩ : ∃ X a b, X = (w.alloc (.cells #[.pointer (some ⟨t, 0, none⟩)] WP)).alloc (.cells #[hdl WP, .pointer (some ⟨w.heap.size, 0, none⟩), .int .u64 150] RV) ∧ Below w.heap.size w X ∧ w.heap.size = a ∧ w.heap.size + 1 = b ∧ Bk X a WP [.pointer (some ⟨t, 0, none⟩)] ∧ Bk X b RV [hdl WP, .pointer (some ⟨w.heap.size, 0, none⟩), .int .u64 150] :=
  ⟨_, _, _, rfl, ((Below.refl _ _).alloc (Nat.le_refl _) _).alloc (by simp) _, rfl, rfl, (Bk.new w _ _).alloc _, Bk.second w _ _ _⟩
 rw [← hX, hb, ha]
 rw [ha] at hbb
 have HBX := Lib.hid hbx
 have HBA := Lib.hid hba
 have HTX := Lib.hid (HT.out.later hbx)
 have k0 := hbb.readT (Below.refl _ _) 0 rfl
 have k1 := hbb.readT (Below.refl _ _) 1 rfl
 have k2 := hbb.readT (Below.refl _ _) 2 rfl
 have n8 := isNilP ⟨a, 0, none⟩ ⟨t, 0, none⟩ X (hba.readT (Below.refl _ _) 0 rfl)
 have hg : X.cell? ⟨0, 0, none⟩ = some errT := HL.out.later hbx
 clear hX hbx ha hb hba hbb
 repeat (first | go_skip | go_guarded | go_step)
 refine (asW_any x y t a old0 old1 X HTX.out HBA.out).mono ?_
 rintro e w1 ⟨rfl, h1, h2⟩
 dsimp only
 repeat (first | go_skip | go_guarded | go_step)
 go_ret
 exact ⟨rfl, h1, (Turn.ofBelow (G := fun k => k = t) HBX.out).trans h2⟩
set_option maxRecDepth 100000 in
set_option maxHeartbeats 4000000 in
theorem told_any (x y : Int) (w : World) (hL : Laid w) :
  Calls Tryz.prog 51 #[.iface WT (.agg #[.int .i64 x, .int .i64 y])] w fun e w' => e = .returned (.tuple #[.int .i64 x, .int .i64 y]) ∧ Below w.heap.size w w' := by
 have HL := Lib.hid hL
 clear hL
 go_enter Tryz.func51, Tryz.ntmps51
 go_upto_region 2 with (fail)
 obtain ⟨U, a0, hU, hub, ha0, hb0⟩ : ∃ U a0, U = w.alloc (.cells #[.int .i64 0, .int .i64 0] WT) ∧ Below w.heap.size w U ∧ w.heap.size = a0 ∧ Bk U a0 WT [.int .i64 0, .int .i64 0] := ⟨_, _, rfl, (Below.refl _ _).alloc (Nat.le_refl _) _, rfl, Bk.new w _ _⟩
 rw [← hU, ha0]
 have HB := Lib.hid hb0
 have HU := Lib.hid hub
 have HLE := Lib.hid (show w.heap.size ≤ a0 by rw [ha0]; exact Nat.le_refl _)
 clear hU hub ha0 hb0
 repeat (first | go_skip | go_guarded | go_step)
 refine (As_any x y a0 _ _ U (HL.out.later HU.out) HB.out).mono ?_
 rintro e w1 ⟨rfl, h1, h2⟩
 have k0 := h1.readT (Below.refl _ _) 0 rfl
 have k1 := h1.readT (Below.refl _ _) 1 rfl
 have HT := Lib.hid (HU.out.trans (h2.below (B := w.heap.size) (fun k _ e => by have := HLE.out; omega) HU.out.size))
 clear h1 h2
 dsimp only
 go_upto_region 3 with (fail)
 have q0 : ∀ q, (w1.drewN q).cell? ⟨a0, 0, none⟩ = some (.int .i64 x) := fun q => k0
 have q1 : ∀ q, (w1.drewN q).cell? ⟨a0, 1, none⟩ = some (.int .i64 y) := fun q => k1
 change Code.wp _ _ _ _ (w1.drewN 0)
 clear k0 k1
 go_quiet (fail)
 all_goals
  repeat (first | go_skip | go_guarded | go_step)
  go_ret2
  exact ⟨rfl, belowDrews HT.out _⟩
end Go.Proofs.YtoigpbajefkpoaaGreatDoor

set_option linter.unusedVariables false
set_option linter.unusedSimpArgs false
namespace Go.Proofs.YtoigpbajefkpoaaGreatDoor
open Go Go.RowKit Go.Extern.Stop Go.Stop Go.Extern

theorem hasErr (v : Value) (xT : TypeId) (w : World) : (Instr.typeAssert (.iface WT v) xT 120 true).run Tryz.prog w = .ok (.tuple #[.iface WT v, .bool true]) w := run_typeAssert_hasB Tryz.underlying120 (by kernel_rfl) v xT w
theorem nilErr (xT : TypeId) (w : World) : (Instr.typeAssert .nilIface xT 120 true).run Tryz.prog w = .ok (.tuple #[.nilIface, .bool false]) w := by kernel_rfl
set_option maxRecDepth 100000 in
set_option maxHeartbeats 4000000 in
theorem catchR_panic (x y : Int) (ga ge : Nat) (w : World) (hL : Laid w) (ha : Bk w ga 3 [.int .i64 0]) (he : Bk w ge 28 [.int .i64 0]) :
  CallsD Tryz.prog 50 #[.pointer (some ⟨ga, 0, none⟩), .pointer (some ⟨ge, 0, none⟩)] (.panicking [{ v := .iface WT (.agg #[.int .i64 x, .int .i64 y]), recovered := false }]) w fun e u' w' =>
   e = .returned (.tuple #[]) ∧ u' = .panicking [{ v := .iface WT (.agg #[.int .i64 x, .int .i64 y]), recovered := true }] ∧ Bk w' ga 3 [.int .i64 x] ∧ Bk w' ge 28 [.int .i64 y] ∧ Turn (fun k => k = ga ∨ k = ge) w w' := by
 have HL := Lib.hid hL
 have HA := Lib.hid ha
 have HE := Lib.hid he
 have HNE := Lib.hid (show ga ≠ ge by
  rintro rfl
  have := ha.symm.trans he
  simp only [Option.some.injEq, Obj.cells.injEq] at this
  exact absurd this.2.1 (by decide))
 have hta := hasErr
 clear hL ha he
 refine callsD_of_wpS Tryz.func50 rfl fun c₀ cs hu => ?_
 apply wpS_seq
 apply wpS_region
 simp [wpOpsS, go_sem, recoverD, hu, Tryz.ntmps50, Exit.thenS, hta]
 apply wpS_seq
 apply wpS_region
 simp [wpOpsS, go_sem, Exit.thenS]
 refine wpS_cond (t := true) (by simp [Act.eval, Array.replicate]) ?_
 simp only [if_true]
 refine wpS_of_wp ?_
 simp only [Array.replicate, List.replicate, List.setIfInBounds_toArray, List.set_cons_zero, List.set_cons_succ, List.append_toArray, List.cons_append, List.nil_append]
 repeat (first | go_skip | go_guarded | go_step)
 refine (told_any x y w HL.out).mono ?_
 rintro e w1 ⟨rfl, hb⟩
 have h1 := HA.out.later hb
 have h2 := HE.out.later hb
 have c0 := h1.readT (Below.refl _ _) 0 rfl
 have c1 := h2.readT (Below.refl _ _) 0 rfl
 have f0 := h1.frozen 0
 have f1 := h2.frozen 0
 have xn1 : ¬ ga = ge := HNE.out
 have xn2 : ¬ ge = ga := fun e => HNE.out e.symm
 have H1 := Lib.hid h1
 have H2 := Lib.hid h2
 have HB := Lib.hid hb
 clear h1 h2 hb
 dsimp only
 repeat (first | go_skip | go_guarded | go_step)
 obtain ⟨X, hX, hxa, hxe, hxt⟩ : ∃ X, X = (w1.setCell ⟨ga, 0, none⟩ (.int .i64 x)).setCell ⟨ge, 0, none⟩ (.int .i64 y) ∧ Bk X ga 3 [.int .i64 x] ∧ Bk X ge 28 [.int .i64 y] ∧ Turn (fun k => k = ga ∨ k = ge) w X :=
  ⟨_, rfl, Bk.far (H1.out.set_ 0 _) (show ga ≠ ge from HNE.out) _, (Bk.far H2.out (show ge ≠ ga from fun e => HNE.out e.symm) _).set_ 0 _, ((Turn.ofBelow (G := fun k => k = ga ∨ k = ge) HB.out).setCell (p := ⟨ga, 0, none⟩) (fun _ => .inl rfl) _).setCell (p := ⟨ge, 0, none⟩) (fun _ => .inr rfl) _⟩
 rw [← hX]
 clear hX
 simp [bodyPostS, results, Tryz.results50]
 exact ⟨hxa, hxe, hxt⟩
set_option maxRecDepth 100000 in
theorem catchR_idle (ga ge : Nat) (w : World) :
  CallsD Tryz.prog 50 #[.pointer (some ⟨ga, 0, none⟩), .pointer (some ⟨ge, 0, none⟩)] .returning w fun e u' w' => e = .returned (.tuple #[]) ∧ u' = .returning ∧ w' = w := by
 have hta := nilErr
 refine callsD_of_wpS Tryz.func50 rfl fun c₀ cs hu => ?_
 apply wpS_seq
 apply wpS_region
 simp [wpOpsS, go_sem, recoverD, hu, Tryz.ntmps50, Exit.thenS, hta]
 apply wpS_seq
 apply wpS_region
 simp [wpOpsS, go_sem, Exit.thenS]
 refine wpS_cond (t := false) (by simp [Act.eval, Array.replicate]) ?_
 simp only [Bool.false_eq_true, if_false]
 refine wpS_of_wp (wp_skip ?_)
 cases c₀
 simp_all [bodyPostS, results, Tryz.results50]
set_option maxRecDepth 100000 in
set_option maxHeartbeats 4000000 in
theorem catchS_panic (x y : Int) (ga ge : Nat) (w : World) (hL : Laid w) (ha : Bk w ga 3 [.int .i64 0]) (he : Bk w ge 28 [.int .i64 0]) :
  CallsD Tryz.prog 62 #[.pointer (some ⟨ga, 0, none⟩), .pointer (some ⟨ge, 0, none⟩)] (.panicking [{ v := .iface WT (.agg #[.int .i64 x, .int .i64 y]), recovered := false }]) w fun e u' w' =>
   e = .returned (.tuple #[]) ∧ u' = .panicking [{ v := .iface WT (.agg #[.int .i64 x, .int .i64 y]), recovered := true }] ∧ Bk w' ga 3 [.int .i64 x] ∧ Bk w' ge 28 [.int .i64 y] ∧ Turn (fun k => k = ga ∨ k = ge) w w' := by
 have HL := Lib.hid hL
 have HA := Lib.hid ha
 have HE := Lib.hid he
 have HNE := Lib.hid (show ga ≠ ge by
  rintro rfl
  have := ha.symm.trans he
  simp only [Option.some.injEq, Obj.cells.injEq] at this
  exact absurd this.2.1 (by decide))
 have hta := hasErr
 clear hL ha he
 refine callsD_of_wpS Tryz.func62 rfl fun c₀ cs hu => ?_
 apply wpS_seq
 apply wpS_region
 simp [wpOpsS, go_sem, recoverD, hu, Tryz.ntmps62, Exit.thenS, hta]
 apply wpS_seq
 apply wpS_region
 simp [wpOpsS, go_sem, Exit.thenS]
 refine wpS_cond (t := true) (by simp [Act.eval, Array.replicate]) ?_
 simp only [if_true]
 refine wpS_of_wp ?_
 simp only [Array.replicate, List.replicate, List.setIfInBounds_toArray, List.set_cons_zero, List.set_cons_succ, List.append_toArray, List.cons_append, List.nil_append]
 repeat (first | go_skip | go_guarded | go_step)
 refine (told_any x y w HL.out).mono ?_
 rintro e w1 ⟨rfl, hb⟩
 have h1 := HA.out.later hb
 have h2 := HE.out.later hb
 have c0 := h1.readT (Below.refl _ _) 0 rfl
 have c1 := h2.readT (Below.refl _ _) 0 rfl
 have f0 := h1.frozen 0
 have f1 := h2.frozen 0
 have xn1 : ¬ ga = ge := HNE.out
 have xn2 : ¬ ge = ga := fun e => HNE.out e.symm
 have H1 := Lib.hid h1
 have H2 := Lib.hid h2
 have HB := Lib.hid hb
 clear h1 h2 hb
 dsimp only
 repeat (first | go_skip | go_guarded | go_step)
 obtain ⟨X, hX, hxa, hxe, hxt⟩ : ∃ X, X = (w1.setCell ⟨ga, 0, none⟩ (.int .i64 x)).setCell ⟨ge, 0, none⟩ (.int .i64 y) ∧ Bk X ga 3 [.int .i64 x] ∧ Bk X ge 28 [.int .i64 y] ∧ Turn (fun k => k = ga ∨ k = ge) w X :=
  ⟨_, rfl, Bk.far (H1.out.set_ 0 _) (show ga ≠ ge from HNE.out) _, (Bk.far H2.out (show ge ≠ ga from fun e => HNE.out e.symm) _).set_ 0 _, ((Turn.ofBelow (G := fun k => k = ga ∨ k = ge) HB.out).setCell (p := ⟨ga, 0, none⟩) (fun _ => .inl rfl) _).setCell (p := ⟨ge, 0, none⟩) (fun _ => .inr rfl) _⟩
 rw [← hX]
 clear hX
 simp [bodyPostS, results, Tryz.results62]
 exact ⟨hxa, hxe, hxt⟩
set_option maxRecDepth 100000 in
theorem catchS_idle (ga ge : Nat) (w : World) :
  CallsD Tryz.prog 62 #[.pointer (some ⟨ga, 0, none⟩), .pointer (some ⟨ge, 0, none⟩)] .returning w fun e u' w' => e = .returned (.tuple #[]) ∧ u' = .returning ∧ w' = w := by
 have hta := nilErr
 refine callsD_of_wpS Tryz.func62 rfl fun c₀ cs hu => ?_
 apply wpS_seq
 apply wpS_region
 simp [wpOpsS, go_sem, recoverD, hu, Tryz.ntmps62, Exit.thenS, hta]
 apply wpS_seq
 apply wpS_region
 simp [wpOpsS, go_sem, Exit.thenS]
 refine wpS_cond (t := false) (by simp [Act.eval, Array.replicate]) ?_
 simp only [Bool.false_eq_true, if_false]
 refine wpS_of_wp (wp_skip ?_)
 cases c₀
 simp_all [bodyPostS, results, Tryz.results62]
end Go.Proofs.YtoigpbajefkpoaaGreatDoor

set_option linter.unusedVariables false
set_option linter.unusedSimpArgs false
namespace Go.Proofs.YtoigpbajefkpoaaGreatDoor
open Go Go.RowKit

theorem OwRs.lower {w : World} {b b' : Nat} {A : Option Addr} {c n : Nat} {Q : List RlA} {L : List Rl} (h : OwRs w b A c n Q L) (hb : b' ≤ b) : OwRs w b' A c n Q L :=
 ⟨h.lenQ, h.lenL, ownBase h.top hb, fun i q x h1 h2 => ⟨ownBase (h.row i q x h1 h2).1 hb, (h.row i q x h1 h2).2.lower hb⟩⟩
section
variable {gt : Nat} {Ft : Nat → Prop} {l0 : List ByteArray} {sz wb : Nat} {F F2 : Nat → Prop} {g : Nat} {s s2 : PS} {w w2 Z : World}
set_option maxRecDepth 100000 in
set_option maxHeartbeats 8000000 in
theorem caughtR_any (w : World) (hL : Laid w) (h : LSt gt Ft l0 sz wb w F g s) (hF0 : ¬ F 0) :
  Calls Tryz.prog 30 #[.func (.func 31) #[.pointer (some ⟨g, 0, none⟩)] #[]] w fun e w' =>
   (∃ rs s' A n c Q Ft', rulesE sz s.1.length [] s = .ok (rs, s') ∧ e = .returned (.tuple #[.slice A n c, .int .i64 0, .int .i64 0]) ∧ OwRs w' w.heap.size A c n Q rs ∧ n ≤ 70000 ∧ Tb w' gt Ft' s'.2.1 ∧ Turn (fun k => F k ∨ Ft k) w w' ∧ (∀ k, Ft' k → Ft k ∨ w.heap.size ≤ k)) ∨
   (∃ z, rulesE sz s.1.length [] s = .error z ∧ e = .returned (.tuple #[.slice none 0 0, .int .i64 (z.2 : Int), .int .i64 (z.1 : Int)]) ∧ Turn F w w') := by
 have hmf : ∀ (fn : Fn) (first cap : Array Value) (w : World), (Instr.makeFunc fn first cap).run Tryz.prog w = .ok (.func fn first cap) w := fun _ _ _ _ => rfl
 obtain ⟨U, ga, ge, hU, hub, ha, he, hba, hbe⟩ : ∃ U ga ge, U = (w.alloc (.cells #[.int .i64 0] 3)).alloc (.cells #[.int .i64 0] 28) ∧ Below w.heap.size w U ∧ w.heap.size = ga ∧ w.heap.size + 1 = ge ∧ Bk U ga 3 [.int .i64 0] ∧ Bk U ge 28 [.int .i64 0] :=
  ⟨_, _, _, rfl, ((Below.refl _ _).alloc (Nat.le_refl _) _).alloc (by simp) _, rfl, rfl, (Bk.new w _ _).alloc _, Bk.second w _ _ _⟩
 have H := Lib.hid h
 have HL := Lib.hid hL
 have HF0 := Lib.hid hF0
 have HU := Lib.hid hU
 have HUB := Lib.hid hub
 have HGA := Lib.hid ha
 have HGE := Lib.hid he
 have HA := Lib.hid hba
 have HE := Lib.hid hbe
 have HS := Lib.hid (h.later hub)
 clear h hL hF0 hU hub ha he hba hbe
 go_enter_defers Tryz.func30, Tryz.ntmps30
 go_upto_region 2 with (fail)
 rw [← HU.out, HGE.out, HGA.out]
 clear HU
 repeat (first | go_skip | go_guarded | go_step)
 refine (policy_any U HS.out).mono ?_
 rintro e w1 (⟨rs, s', A, n, c, Q, Ft', hr, rfl, ho, hn, ht, htu, hg⟩ | ⟨z, hr, rfl, ht⟩)
 ·
  have hka : Bk w1 ga 3 [.int .i64 0] := htu.bk HA.out (fun hf => by
   rcases hf with hf | hf
   ·
    rcases HS.out.types hf HA.out with e | e | e <;> exact absurd e (by decide)
   ·
    rcases HS.out.tab.types hf HA.out with e | e <;> exact absurd e (by decide))
  have hke : Bk w1 ge 28 [.int .i64 0] := htu.bk HE.out (fun hf => by
   rcases hf with hf | hf
   ·
    rcases HS.out.types hf HE.out with e | e | e <;> exact absurd e (by decide)
   ·
    rcases HS.out.tab.types hf HE.out with e | e <;> exact absurd e (by decide))
  have c0 := hka.readT (Below.refl _ _) 0 rfl
  have c1 := hke.readT (Below.refl _ _) 0 rfl
  have f0 := hka.frozen 0
  have f1 := hke.frozen 0
  have xn1 : ¬ ga = ge := by have := HGA.out; have := HGE.out; omega
  have xn2 : ¬ ge = ga := fun e => xn1 e.symm
  have HKA := Lib.hid hka
  have HKE := Lib.hid hke
  have HR := Lib.hid hr
  have HO := Lib.hid ho
  have HN := Lib.hid hn
  have HT := Lib.hid ht
  have HTU := Lib.hid htu
  have HG := Lib.hid hg
  clear hka hke hr ho hn ht htu hg
  dsimp only
  repeat (first | go_skip | go_guarded | go_step)
  obtain ⟨X, hX, hxa, hxe, hxt⟩ : ∃ X, X = (w1.setCell ⟨ga, 0, none⟩ (.int .i64 0)).setCell ⟨ge, 0, none⟩ (.int .i64 0) ∧ Bk X ga 3 [.int .i64 0] ∧ Bk X ge 28 [.int .i64 0] ∧ Turn (fun k => k = ga ∨ k = ge) w1 X :=
   ⟨_, rfl, Bk.far (HKA.out.set_ 0 _) (show ga ≠ ge from xn1) _, (Bk.far HKE.out (show ge ≠ ga from xn2) _).set_ 0 _, ((Turn.refl (fun k => k = ga ∨ k = ge) w1).setCell (p := ⟨ga, 0, none⟩) (fun _ => .inl rfl) _).setCell (p := ⟨ge, 0, none⟩) (fun _ => .inr rfl) _⟩
  rw [← hX]
  have q0 := hxa.readT (Below.refl _ _) 0 rfl
  have q1 := hxe.readT (Below.refl _ _) 0 rfl
  have HXT := Lib.hid hxt
  clear hX hxa hxe hxt c0 c1 f0 f1
  refine leaves_cons (f := 50) (args := #[.pointer (some ⟨ga, 0, none⟩), .pointer (some ⟨ge, 0, none⟩)]) (by simp) (by simp [go_sem]) ?_
  refine (catchR_idle ga ge X).mono ?_
  rintro e u' w'' ⟨rfl, rfl, rfl⟩
  refine ⟨.tuple #[.slice A n c, .int .i64 0, .int .i64 0], ?_, .inl ⟨rs, s', A, n, c, Q, Ft', HR.out, rfl, ?_, HN.out, ?_, ?_, ?_⟩⟩
  ·
   simp [results, Tryz.results30, go_sem, q0, q1]
  ·
   have ho := HO.out
   have hle : w.heap.size ≤ U.heap.size := HUB.out.size
   refine (ho.lower hle).map fun e s v n xs he hh => ?_
   refine HXT.out.own hh (fun k hk e' => ?_)
   obtain ⟨cs, t, fr, hh', rfl⟩ := own_type hh hk
   rcases e' with rfl | rfl
   ·
    have := hh'.symm.trans HKA.out
    simp only [Option.some.injEq, Obj.cells.injEq] at this
    rcases he with e2 | e2 | e2 <;> rw [this.2.1] at e2 <;> exact absurd e2 (by decide)
   ·
    have := hh'.symm.trans HKE.out
    simp only [Option.some.injEq, Obj.cells.injEq] at this
    rcases he with e2 | e2 | e2 <;> rw [this.2.1] at e2 <;> exact absurd e2 (by decide)
  ·
   refine HT.out.turn HXT.out (fun k hk e => ?_)
   rcases e with rfl | rfl
   ·
    rcases HT.out.types hk HKA.out with e | e <;> exact absurd e (by decide)
   ·
    rcases HT.out.types hk HKE.out with e | e <;> exact absurd e (by decide)
  ·
   refine ((Turn.ofBelow (G := fun k => F k ∨ Ft k) HUB.out).trans HTU.out).then_ HXT.out (fun k hk e => ?_)
   have h1 := HGA.out
   have h2 := HGE.out
   omega
  ·
   intro k hk
   rcases HG.out k hk with h1 | h1
   ·
    exact .inl h1
   ·
    have := HUB.out.size
    exact .inr (by omega)
 ·
  have hka := HS.out.keeps ht HA.out (by decide) (by decide) (by decide)
  have hke := HS.out.keeps ht HE.out (by decide) (by decide) (by decide)
  have hl := (HL.out.later HUB.out).turn ht HF0.out
  have HT := Lib.hid ht
  have HR := Lib.hid hr
  clear ht hr
  refine leaves_cons (f := 50) (args := #[.pointer (some ⟨ga, 0, none⟩), .pointer (some ⟨ge, 0, none⟩)]) (by simp) (by simp [go_sem]) ?_
  refine (catchR_panic _ _ ga ge w1 hl hka hke).mono ?_
  rintro e u' w'' ⟨rfl, rfl, hxa, hxe, hxt⟩
  have q0 := hxa.readT (Below.refl _ _) 0 rfl
  have q1 := hxe.readT (Below.refl _ _) 0 rfl
  refine ⟨.tuple #[.slice none 0 0, .int .i64 (z.2 : Int), .int .i64 (z.1 : Int)], ?_, .inr ⟨z, HR.out, rfl, ?_⟩⟩
  ·
   simp [results, Tryz.results30, go_sem, q0, q1]
  ·
   refine ((Turn.ofBelow (G := F) HUB.out).trans HT.out).then_ hxt (fun k hk e => ?_)
   have h1 := HGA.out
   have h2 := HGE.out
   omega
end
end Go.Proofs.YtoigpbajefkpoaaGreatDoor

