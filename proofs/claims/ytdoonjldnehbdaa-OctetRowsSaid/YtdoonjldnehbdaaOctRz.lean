/- OctetRows: vars and byte strings, one behind the other, are taken in their order; cut anywhere just those that stand whole are. No condition. -/
import Derived.Test.YtdoonjldnehbdaaOctRL
import Derived.Test.YtdoonjldnehbdaaOctRR
import Derived.Test.YtdoonjldnehbdaaRow
set_option linter.unusedVariables false
namespace Go.Proofs.Ytdoonjldnehbdaa.octetRows
open Go Go.RowKit Go.ChangeShapes Go.WideShapes Go.ChangeAt

theorem toRws {w : World} {B n : Nat} {A : Option Addr} {Rl : List RowA} {sl : List (List UInt8)} (h : Go.Proofs.Ytdoonjldnehbdaa.Rws w B A n Rl sl) : Rws w B A n (fun i => Rl.getD i (none, 0, 0)) sl := by
  refine ⟨h.lenS, ?_, fun i hi => ?_⟩
  · have e : (Rl.map fun r : RowA => Value.slice r.1 r.2.1 r.2.2) = (List.range n).map fun i => .slice (Rl.getD i (none, 0, 0)).1 (Rl.getD i (none, 0, 0)).2.1 (Rl.getD i (none, 0, 0)).2.2 := by
      apply List.ext_getElem
      · simp [h.lenR]
      · intro i h1 h2
        have hi : i < Rl.length := by simpa using h1
        simp [List.getD, List.getElem?_eq_getElem hi]
    rw [← e]
    exact h.top
  · have h1 : Rl[i]? = some (Rl.getD i (none, 0, 0)) := by
      have hl : i < Rl.length := by rw [h.lenR]; exact hi
      simp [List.getD, List.getElem?_eq_getElem hl]
    have h2 : sl[i]? = some (sl.getD i []) := by
      have hl : i < sl.length := by rw [h.lenS]; exact hi
      simp [List.getD, List.getElem?_eq_getElem hl]
    exact (h.row i _ _ h1 h2).1

theorem cells64 : Try.prog.cellsOf 23 = 1 := by kernel_rfl
/-- A []uint64 among the arguments. -/
theorem open_u64s {H : Type} {enc : TypeId × Value → H} {W : World} {v : Value} {d : DataW H} {p : List MemPlace} (hv : Value.okWide Try.prog W .any 0 42 v) (h : DataW.Trod enc Try.prog W 0 (fun _ => true) true 42 v d p)
    (hlt : ∀ x ∈ p, x.block < W.heap.size) :
    ∃ (A : Option Addr) (n c : Nat) (ks : List Nat), v = .slice A n c ∧ n ≤ c ∧ n ≤ maxLen ∧ Rd W W.heap.size 1 A n (ks.map nv) ∧ ∀ i, ks.getD i 0 < 18446744073709551616 := by
  obtain ⟨a0, len, cap, rfl⟩ := okWide_slice Try.underlying42 hv
  obtain ⟨fuel, hf⟩ := h
  rcases open_ints Try.underlying42 Try.underlying23 cells64 hf with ⟨hcs, hx⟩ | ⟨a, len', cap', zs, hcs, _, hl, hm, hz, hx, hcell, hwz⟩
  · simp [Value.cells] at hcs
    obtain ⟨rfl, rfl, rfl⟩ := hcs
    exact ⟨none, 0, 0, [], rfl, Nat.le_refl _, Nat.zero_le _, Rd.nil, by simp⟩
  · simp [Value.cells] at hcs
    obtain ⟨rfl, rfl, rfl⟩ := hcs
    simp only [Prod.mk.injEq] at hx
    obtain ⟨rfl, rfl⟩ := hx
    simp only [if_true] at hz
    have hb : ∀ k ∈ ((zs.take len).map fun z => z.toNat), k < 18446744073709551616 := fun k hk => by
      obtain ⟨z, hz1, rfl⟩ := List.mem_map.1 hk
      have hb := bounds_u64 (hwz z (List.mem_of_mem_take hz1))
      omega
    refine ⟨some a, len, cap, (zs.take len).map fun z => z.toNat, rfl, hl, by omega, ⟨by simp; omega, fun hn => ?_⟩, fun i => ?_⟩
    · obtain ⟨b, off, spot⟩ := a
      have hspot : spot = none := by simpa [Addr.add] using World.cell?_spot (hcell 0 (by omega))
      subst hspot
      refine ⟨b, off, rfl, hlt (.cell b off) (MemPlace.mem_row.2 ⟨0, by omega, by simp⟩), fun j u hu => ?_⟩
      have hj : j < len := by
        have := (List.getElem?_eq_some_iff.1 hu).1
        simp at this
        omega
      have hjz : j < zs.length := by omega
      have hc := hcell j hjz
      rw [addPlain] at hc
      rw [hc]
      have hb := bounds_u64 (hwz zs[j] (List.getElem_mem _))
      simp only [List.getElem?_map, List.getElem?_take, hj, if_true, List.getElem?_eq_getElem hjz, Option.map_some, Option.some.injEq] at hu
      rw [← hu]
      simp [nv, List.getD, List.getElem?_eq_getElem hjz]
      omega
    · rw [List.getD_eq_getElem?_getD]
      cases hh : (((zs.take len).map fun z => z.toNat))[i]? with
      | none => simp
      | some k => exact hb k (List.mem_of_getElem? hh)

set_option maxRecDepth 100000 in
theorem lifted (os : Os) (started : os.Started) (H : Type) (enc : TypeId × Value → H) :
    ReturnsInHanded {} Try.checked os 7 .any (Rows.octetRowsSpec.pre6 enc Try.prog Try.f7 Rows.octetRowsRow.domain false) (Rows.octetRowsSpec.post enc Try.prog Try.f7 false true false false) := by
  refine returnsInHanded_of_change_sized (C := Try.checked) ownK started (by kernel_rfl) Try.func7
    (ChangeSpec.witness6 (enc := enc) (C := Try.checked) false ⟨#[], #[.slice none 0 0, .slice none 0 0, .int .u16 0], []⟩ 8 (by kernel_rfl) (by kernel_rfl) (by kernel_rfl) (by kernel_rfl)) ?_
  intro W base args ds gs before hval0 hW hcnd hsz0 _
  have hsz : (DataW.weightsEach Try.prog (Try.f7.params.toList ++ Rows.octetRowsSpec.plain.varTypes Try.prog) (ds ++ gs)).all (· ≤ reachBytes) = true := hsz0
  have hval : ∀ (j : Nat) t v, Try.f7.params[j]? = some t → args[j]? = some v → Value.okWide Try.prog W .any base t v := hval0
  have hlt : ∀ x ∈ before, x.block < W.heap.size := fun x hx => by simpa using hW.lt x hx
  have hW' := hW
  obtain ⟨p, q, hA0, hV, rfl, hfz, hnd⟩ := hW
  have hA : DataW.TrodAll enc Try.prog W 0 (fun _ => true) true Try.f7.params.toList args.toList ds p := hA0
  rw [Try.params7] at hA hval hsz
  obtain ⟨v0, vs0, d0, ds0, p0, q0, hargs, rfl, rfl, h0, r0⟩ := trodAll_cons hA
  obtain ⟨v1, vs1, d1, ds1, p1, q1, rfl, rfl, rfl, h1, r1⟩ := trodAll_cons r0
  obtain ⟨v2, vs2, d2, ds2, p2, q2, rfl, rfl, rfl, h2, r2⟩ := trodAll_cons r1
  obtain ⟨rfl, rfl, rfl⟩ := trodAll_nil r2
  obtain rfl : args = #[v0, v1, v2] := by cases args; simp_all
  obtain ⟨rfl, rfl⟩ := trodVars_none hV
  obtain ⟨zk, rfl, rfl, rfl, wzk⟩ := open_int Try.underlying44 (hval 2 44 v2 rfl rfl) h2
  have bzk := bounds_u16 wzk
  obtain ⟨kv, rfl⟩ : ∃ m : Nat, zk = (m : Int) := ⟨zk.toNat, by omega⟩
  obtain ⟨A1, n1, c1, R1, sl1, rfl, hk1, hm1, hr1, hls⟩ := open_rows (hval 1 43 v1 rfl rfl) h1 (fun x hx => hlt x (by simp [hx])) (fun n hn => by
    have h2 := List.all_eq_true.1 hsz n (DataW.weights_mem_each (j := 1) (t := 43) rfl rfl n hn)
    have h3 : n ≤ reachBytes := by simpa using h2
    simp only [reachBytes] at h3
    omega)
  obtain ⟨A0, n0, c0, nl, rfl, hk0, hm0, hr0, hnl⟩ := open_u64s (hval 0 42 v0 rfl rfl) h0 (fun x hx => hlt x (by simp [hx]))
  have main : Calls Try.prog 7 #[.slice A0 n0 c0, .slice A1 n1 c1, .int .u16 (kv : Int)] W fun e w' => e = .returned (.bool true) ∧ Below W.heap.size W w' := by
    by_cases hv : 40 < n0 ∨ 40 < n1
    · exact walkVast A0 A1 n0 c0 n1 c1 kv W hv
    · by_cases hs : n0 < n1
      · exact walkL A0 A1 n0 c0 n1 c1 nl _ sl1 kv W hr0 hnl (toRws hr1) (by omega) (by omega) (by omega) hs
      · exact walkR A0 A1 n0 c0 n1 c1 nl _ sl1 kv W hr0 hnl (toRws hr1) (by omega) (by omega) (by omega) (by omega)
  refine main.mono fun e W' ⟨he, hg⟩ => ?_
  subst he
  exact ⟨_, rfl, post_law laidOut rfl (by kernel_rfl) hW' hg rfl Try.underlying4 rfl rfl rfl⟩

theorem proved : Rows.OctetRowsSaid :=
  OpenClaim.holds_of_wide 7 Try.f7 rfl rfl rfl rfl rfl rfl rfl ⟨rfl, rfl, rfl, rfl, rfl⟩ rfl rfl rfl rfl rfl (by kernel_rfl) Try.func7 (by kernel_rfl)
    (of_decide_eq_true (by kernel_rfl)) (by unfold Func.isWrapper; first | (rw [if_pos (by decide +kernel)]; kernel_rfl) | (rw [if_neg (by decide +kernel)]; exact ⟨rfl, rfl⟩))
    (fun os started H enc _ => lifted os started H enc)
#print axioms proved
end Go.Proofs.Ytdoonjldnehbdaa.octetRows
