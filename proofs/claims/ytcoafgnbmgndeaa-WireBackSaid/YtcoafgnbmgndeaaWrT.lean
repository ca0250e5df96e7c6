/- Layer 6 (wire), the document's taker: a number, a byte, a term. -/
import Derived.Test.YtcoafgnbmgndeaaWrOr
import Derived.Test.YtcoafgnbmgndeaaWrN
import Derived.Test.YtcoafgnbmgndeaaFp
set_option linter.unusedVariables false
set_option linter.unusedSimpArgs false
namespace Go.Proofs.Ytcoafgnbmgndeaa
open Go Go.RowKit

/-- The taker in memory: its bytes, its place, whether they said nothing. -/
def Tk (w : World) (g : Nat) (A : Option Addr) (n c k : Nat) (bad : Bool) : Prop := Bk w g 82 [.slice A n c, .int .i64 (k : Int), .bool bad]
theorem Bk.readT {w w' : World} {g : Nat} {t : TypeId} {cs : List Value} (h : Bk w g t cs) (hb : Below w.heap.size w w') (i : Nat) {v : Value} (hv : cs[i]? = some v) : w'.cell? ⟨g, i, none⟩ = some v := by
  rw [(h.later hb).cell, hv]
theorem tkTurn (V : World) (g i : Nat) (v : Value) : Turn (fun k => k = g) V (V.setCell ⟨g, i, none⟩ v) := Turn.setCell (p := ⟨g, i, none⟩) (Turn.refl (fun k => k = g) V) (fun _ => rfl) v
/-- What is still to be read; none, if they said nothing. -/
def rest (bs : List UInt8) (k : Nat) (bad : Bool) : Option (List UInt8) := if bad then none else some (bs.drop k)
/-- How a reader's answer shows in a taker. -/
def After {α : Type} (a : Option (α × List UInt8)) (bs : List UInt8) (k : Nat) (bad : Bool) (x z : α) : Prop :=
  match a with
  | none => bad = true ∧ x = z
  | some (y, r) => bad = false ∧ x = y ∧ r = bs.drop k
theorem tvAns_rNum {bs : List UInt8} {k v x z most : Nat} (hk : k ≤ bs.length) (h : tvAns bs (k : Nat) = (v, x, z)) :
    (z ≠ 0 → rNum most (bs.drop k) = none) ∧ (z = 0 → x ≤ bs.length ∧ rNum most (bs.drop k) = if v ≤ most then some (v, bs.drop x) else none) := by
  unfold tvAns at h
  rw [if_neg (by omega), Int.toNat_natCast] at h
  unfold rNum
  cases h1 : tv (bs.drop k) 0 0 with
  | none =>
    rw [h1] at h
    simp only [Prod.mk.injEq] at h
    exact ⟨fun _ => rfl, fun e => by omega⟩
  | some q =>
    obtain ⟨v', m⟩ := q
    rw [h1] at h
    simp only [Prod.mk.injEq] at h
    obtain ⟨rfl, rfl, rfl⟩ := h
    have hb := tv_bd _ 0 0 v' m (by omega) (by omega) h1
    rw [List.length_drop] at hb
    refine ⟨fun e => absurd rfl e, fun _ => ⟨by omega, ?_⟩⟩
    dsimp only
    rw [List.drop_drop]

set_option maxRecDepth 100000 in
set_option maxHeartbeats 4000000 in
theorem rNumber_any (g : Nat) (A : Option Addr) (n c k most : Nat) (bad : Bool) (bs : List UInt8) (w : World) (hk0 : Tk w g A n c k bad) (hr : Rd w g 1 A n (bs.map bv)) (hc : n ≤ c) (hm : n ≤ 140737488355328) (hk : k ≤ n) (hmost : most < 18446744073709551616) :
    Calls Try.prog 39 #[.pointer (some ⟨g, 0, none⟩), .int .u64 (most : Int)] w fun e w' => ∃ (v k' : Nat) (bad' : Bool), e = .returned (.int .u64 (v : Int)) ∧ Tk w' g A n c k' bad' ∧ k' ≤ n ∧ Turn (fun i => i = g) w w' ∧ After ((rest bs k bad).bind (rNum most)) bs k' bad' v 0 := by
  have hl : bs.length = n := by simpa using hr.len1
  obtain ⟨v, x, z, hans⟩ : ∃ v x z, tvAns bs (k : Nat) = (v, x, z) := ⟨_, _, _, rfl⟩
  have hfc := tvAns_rNum (most := most) (show k ≤ bs.length by omega) hans
  have hbd := tvAns_bd hans
  have HT := Lib.hid (show Bk w g 82 [.slice A n c, .int .i64 (k : Int), .bool bad] from hk0)
  have HR := Lib.hid hr
  have HL := Lib.hid hl
  have HA := Lib.hid hans
  have HFC := Lib.hid hfc
  have HBD := Lib.hid hbd
  clear hk0 hr hl hans hfc hbd
  go_enter Try.func39, Try.ntmps39
  repeat (first | go_skip | go_guarded | go_step)
  refine wp_region_held_drew (S := fun V => Below w.heap.size w V) (by kernel_rfl) ?_ (fun hHeld => ?_)
  · exact (Below.refl w.heap.size w).drew
  refine wpAnyH_take (i := 0) (oi := ?oid1) (v := ?vd1) ?hod1 (by kernel_rfl) ?hfd1 ?hrd1 ?hQd1 ?hyd1 hHeld ?restd1
  case hod1 => (simp only [List.getElem?_toArray, List.getElem?_cons_succ, List.getElem?_cons_zero]; exact rfl)
  case hfd1 => kernel_rfl
  case hrd1 => kernel_rfl
  case hQd1 => exact fun _ _ _ h => h
  case hyd1 =>
    refine Or.inl ⟨by rfl, ?_⟩
    intro V hSV
    go_simp
    (try with_reducible rfl)
  try simp only [Act.put, List.setIfInBounds_toArray, List.set_cons_zero, List.set_cons_succ]
  refine wpAnyH_take (i := 1) (oi := ?oid2) (v := ?vd2) ?hod2 (by kernel_rfl) ?hfd2 ?hrd2 ?hQd2 ?hyd2 hHeld ?restd2
  case hod2 => (simp only [List.getElem?_toArray, List.getElem?_cons_succ, List.getElem?_cons_zero]; exact rfl)
  case hfd2 => kernel_rfl
  case hrd2 => kernel_rfl
  case hQd2 => exact fun _ _ _ h => h
  case hyd2 =>
    refine Or.inl ⟨by rfl, ?_⟩
    intro V hSV
    go_simp
    (try with_reducible rfl)
  try simp only [Act.put, List.setIfInBounds_toArray, List.set_cons_zero, List.set_cons_succ]
  refine wpAnyH_take (i := 2) (oi := ?oid3) (v := ?vd3) ?hod3 (by kernel_rfl) ?hfd3 ?hrd3 ?hQd3 ?hyd3 hHeld ?restd3
  case hod3 => (simp only [List.getElem?_toArray, List.getElem?_cons_succ, List.getElem?_cons_zero]; exact rfl)
  case hfd3 => kernel_rfl
  case hrd3 => kernel_rfl
  case hQd3 => exact fun _ _ _ h => h
  case hyd3 =>
    refine Or.inl ⟨by rfl, ?_⟩
    intro V hSV
    go_simp
    (try with_reducible rfl)
  try simp only [Act.put, List.setIfInBounds_toArray, List.set_cons_zero, List.set_cons_succ]
  refine wpAnyH_take (i := 3) (oi := ?oid4) (v := ?vd4) ?hod4 (by kernel_rfl) ?hfd4 ?hrd4 ?hQd4 ?hyd4 hHeld ?restd4
  case hod4 => (simp only [List.getElem?_toArray, List.getElem?_cons_succ, List.getElem?_cons_zero]; exact rfl)
  case hfd4 => kernel_rfl
  case hrd4 => kernel_rfl
  case hQd4 => exact fun _ _ _ h => h
  case hyd4 =>
    refine Or.inl ⟨by rfl, ?_⟩
    intro V hSV
    have q0 := HT.out.readT hSV 0 rfl
    go_simp
    (try with_reducible rfl)
  try simp only [Act.put, List.setIfInBounds_toArray, List.set_cons_zero, List.set_cons_succ]
  refine wpAnyH_take (i := 4) (oi := ?oid5) (v := ?vd5) ?hod5 (by kernel_rfl) ?hfd5 ?hrd5 ?hQd5 ?hyd5 hHeld ?restd5
  case hod5 => (simp only [List.getElem?_toArray, List.getElem?_cons_succ, List.getElem?_cons_zero]; exact rfl)
  case hfd5 => kernel_rfl
  case hrd5 => kernel_rfl
  case hQd5 => exact fun _ _ _ h => h
  case hyd5 =>
    refine Or.inl ⟨by rfl, ?_⟩
    intro V hSV
    go_simp
    (try with_reducible rfl)
  try simp only [Act.put, List.setIfInBounds_toArray, List.set_cons_zero, List.set_cons_succ]
  refine wpAnyH_take (i := 5) (oi := ?oid6) (v := ?vd6) ?hod6 (by kernel_rfl) ?hfd6 ?hrd6 ?hQd6 ?hyd6 hHeld ?restd6
  case hod6 => (simp only [List.getElem?_toArray, List.getElem?_cons_succ, List.getElem?_cons_zero]; exact rfl)
  case hfd6 => kernel_rfl
  case hrd6 => kernel_rfl
  case hQd6 => exact fun _ _ _ h => h
  case hyd6 =>
    refine Or.inl ⟨by rfl, ?_⟩
    intro V hSV
    go_simp
    (try with_reducible rfl)
  try simp only [Act.put, List.setIfInBounds_toArray, List.set_cons_zero, List.set_cons_succ]
  refine wpAnyH_take (i := 6) (oi := ?oid7) (v := ?vd7) ?hod7 (by kernel_rfl) ?hfd7 ?hrd7 ?hQd7 ?hyd7 hHeld ?restd7
  case hod7 => (simp only [List.getElem?_toArray, List.getElem?_cons_succ, List.getElem?_cons_zero]; exact rfl)
  case hfd7 => kernel_rfl
  case hrd7 => kernel_rfl
  case hQd7 => exact fun _ _ _ h => h
  case hyd7 =>
    refine Or.inl ⟨by rfl, ?_⟩
    intro V hSV
    go_simp
    (try with_reducible rfl)
  try simp only [Act.put, List.setIfInBounds_toArray, List.set_cons_zero, List.set_cons_succ]
  refine wpAnyH_take (i := 7) (oi := ?oid8) (v := ?vd8) ?hod8 (by kernel_rfl) ?hfd8 ?hrd8 ?hQd8 ?hyd8 hHeld ?restd8
  case hod8 => (simp only [List.getElem?_toArray, List.getElem?_cons_succ, List.getElem?_cons_zero]; exact rfl)
  case hfd8 => kernel_rfl
  case hrd8 => kernel_rfl
  case hQd8 => exact fun _ _ _ h => h
  case hyd8 =>
    refine Or.inl ⟨by rfl, ?_⟩
    intro V hSV
    have q1 := HT.out.readT hSV 1 rfl
    go_simp
    (try with_reducible rfl)
  try simp only [Act.put, List.setIfInBounds_toArray, List.set_cons_zero, List.set_cons_succ]
  refine wpAnyH_ready (rs := [8]) (by kernel_rfl) (by simp) ?_
  refine AllReadyH.cons (o := ?od9) ?hod9 (fun K hK => ?kd9) ?md9
  case hod9 => (simp only [List.getElem?_toArray, List.getElem?_cons_succ, List.getElem?_cons_zero]; exact rfl)
  case kd9 =>
    go_simp
    refine (rTakeVar_any A n c (k : Int) bs _ ((Rd.below (HR.out.more (Nat.le_of_lt HT.out.lt)) hHeld).more (Below.size hHeld)) hc hm v x z HA.out).mono ?_
    rintro e Vd9 ⟨rfl, hbd9⟩
    (try dsimp only)
    refine hK.out _ _ ?_ (fun hHeld => ?_)
    · exact Below.trans hHeld (hbd9.mono (Below.size hHeld))
    clear hK K
    try simp only [Act.put, List.setIfInBounds_toArray, List.set_cons_zero, List.set_cons_succ]
    refine wpAnyH_take (i := 9) (oi := ?oid10) (v := ?vd10) ?hod10 (by kernel_rfl) ?hfd10 ?hrd10 ?hQd10 ?hyd10 hHeld ?restd10
    case hod10 => (simp only [List.getElem?_toArray, List.getElem?_cons_succ, List.getElem?_cons_zero]; exact rfl)
    case hfd10 => kernel_rfl
    case hrd10 => kernel_rfl
    case hQd10 => exact fun _ _ _ h => h
    case hyd10 =>
      refine Or.inl ⟨by rfl, ?_⟩
      intro V hSV
      go_simp
      (try with_reducible rfl)
    try simp only [Act.put, List.setIfInBounds_toArray, List.set_cons_zero, List.set_cons_succ]
    refine wpAnyH_take (i := 10) (oi := ?oid11) (v := ?vd11) ?hod11 (by kernel_rfl) ?hfd11 ?hrd11 ?hQd11 ?hyd11 hHeld ?restd11
    case hod11 => (simp only [List.getElem?_toArray, List.getElem?_cons_succ, List.getElem?_cons_zero]; exact rfl)
    case hfd11 => kernel_rfl
    case hrd11 => kernel_rfl
    case hQd11 => exact fun _ _ _ h => h
    case hyd11 =>
      refine Or.inl ⟨by rfl, ?_⟩
      intro V hSV
      go_simp
      (try with_reducible rfl)
    try simp only [Act.put, List.setIfInBounds_toArray, List.set_cons_zero, List.set_cons_succ]
    refine wpAnyH_take (i := 11) (oi := ?oid12) (v := ?vd12) ?hod12 (by kernel_rfl) ?hfd12 ?hrd12 ?hQd12 ?hyd12 hHeld ?restd12
    case hod12 => (simp only [List.getElem?_toArray, List.getElem?_cons_succ, List.getElem?_cons_zero]; exact rfl)
    case hfd12 => kernel_rfl
    case hrd12 => kernel_rfl
    case hQd12 => exact fun _ _ _ h => h
    case hyd12 =>
      refine Or.inl ⟨by rfl, ?_⟩
      intro V hSV
      go_simp
      (try with_reducible rfl)
    try simp only [Act.put, List.setIfInBounds_toArray, List.set_cons_zero, List.set_cons_succ]
    refine wpAnyH_take (i := 12) (oi := ?oid13) (v := ?vd13) ?hod13 (by kernel_rfl) ?hfd13 ?hrd13 ?hQd13 ?hyd13 hHeld ?restd13
    case hod13 => (simp only [List.getElem?_toArray, List.getElem?_cons_succ, List.getElem?_cons_zero]; exact rfl)
    case hfd13 => kernel_rfl
    case hrd13 => kernel_rfl
    case hQd13 => exact fun _ _ _ h => h
    case hyd13 =>
      refine Or.inl ⟨by rfl, ?_⟩
      intro V hSV
      go_simp
      (try with_reducible rfl)
    try simp only [Act.put, List.setIfInBounds_toArray, List.set_cons_zero, List.set_cons_succ]
    refine wpAnyH_take (i := 13) (oi := ?oid14) (v := ?vd14) ?hod14 (by kernel_rfl) ?hfd14 ?hrd14 ?hQd14 ?hyd14 hHeld ?restd14
    case hod14 => (simp only [List.getElem?_toArray, List.getElem?_cons_succ, List.getElem?_cons_zero]; exact rfl)
    case hfd14 => kernel_rfl
    case hrd14 => kernel_rfl
    case hQd14 => exact fun _ _ _ h => h
    case hyd14 =>
      refine Or.inl ⟨by rfl, ?_⟩
      intro V hSV
      go_simp
      (try with_reducible rfl)
    try simp only [Act.put, List.setIfInBounds_toArray, List.set_cons_zero, List.set_cons_succ]
    refine wpAnyH_take (i := 14) (oi := ?oid15) (v := ?vd15) ?hod15 (by kernel_rfl) ?hfd15 ?hrd15 ?hQd15 ?hyd15 hHeld ?restd15
    case hod15 => (simp only [List.getElem?_toArray, List.getElem?_cons_succ, List.getElem?_cons_zero]; exact rfl)
    case hfd15 => kernel_rfl
    case hrd15 => kernel_rfl
    case hQd15 => exact fun _ _ _ h => h
    case hyd15 =>
      refine Or.inl ⟨by rfl, ?_⟩
      intro V hSV
      go_simp
      (try with_reducible rfl)
    try simp only [Act.put, List.setIfInBounds_toArray, List.set_cons_zero, List.set_cons_succ]
    refine wpAnyH_take (i := 15) (oi := ?oid16) (v := ?vd16) ?hod16 (by kernel_rfl) ?hfd16 ?hrd16 ?hQd16 ?hyd16 hHeld ?restd16
    case hod16 => (simp only [List.getElem?_toArray, List.getElem?_cons_succ, List.getElem?_cons_zero]; exact rfl)
    case hfd16 => kernel_rfl
    case hrd16 => kernel_rfl
    case hQd16 => exact fun _ _ _ h => h
    case hyd16 =>
      refine Or.inl ⟨by rfl, ?_⟩
      intro V hSV
      go_simp
      (try with_reducible rfl)
    try simp only [Act.put, List.setIfInBounds_toArray, List.set_cons_zero, List.set_cons_succ]
    refine wpAnyH_done (by kernel_rfl) ?_ _
    obtain ⟨V, hV, hv⟩ : ∃ V, V = _ ∧ Below w.heap.size w V := ⟨_, rfl, hHeld⟩
    rw [← hV]
    clear hV
    have HT := Lib.hid (HT.out.later hv)
    have hbg := HT.out
    have t0 := hbg.readT (Below.refl _ _) 0 rfl
    have t1 := hbg.readT (Below.refl _ _) 1 rfl
    have t2 := hbg.readT (Below.refl _ _) 2 rfl
    have tf1 := hbg.frozen 1
    have tf2 := hbg.frozen 2
    have HV := Lib.hid hv
    clear hbg hv hHeld
    cases bad with
    | true =>
      repeat (first | go_skip | go_guarded | go_step)
      go_ret
      exact ⟨0, k, true, rfl, HT.out.set_ 2 (.bool true), hk, (Turn.ofBelow HV.out).trans (tkTurn _ _ _ _), rfl, rfl⟩
    | false =>
      by_cases hz : z = 0
      · subst hz
        have dz : (((0 : Nat) : Int) != 0) = false := rfl
        by_cases hle : v ≤ most
        · have d1 : decide (most < v) = false := by simp; omega
          have d2 : decide ((most : Int) < (v : Int)) = false := by simp; omega
          have HLE := Lib.hid hle
          clear hle
          repeat (first | go_skip | go_guarded | go_step)
          go_ret
          obtain ⟨hx, he⟩ := HFC.out.2 rfl
          refine ⟨v, x, false, rfl, HT.out.set_ 1 (.int .i64 (x : Int)), by rw [← HL.out]; exact hx, (Turn.ofBelow HV.out).trans (tkTurn _ _ _ _), ?_⟩
          show After (rNum most (bs.drop k)) bs x false v 0
          rw [he, if_pos HLE.out]
          exact ⟨rfl, rfl, rfl⟩
        · have d1 : decide (most < v) = true := by simp; omega
          have d2 : decide ((most : Int) < (v : Int)) = true := by simp; omega
          have HLE := Lib.hid hle
          clear hle
          repeat (first | go_skip | go_guarded | go_step)
          go_ret
          obtain ⟨hx, he⟩ := HFC.out.2 rfl
          refine ⟨0, k, true, rfl, HT.out.set_ 2 (.bool true), hk, (Turn.ofBelow HV.out).trans (tkTurn _ _ _ _), ?_⟩
          show After (rNum most (bs.drop k)) bs k true 0 0
          rw [he, if_neg HLE.out]
          exact ⟨rfl, rfl⟩
      · have dz : ((z : Int) != 0) = true := by simp; omega
        have HZ := Lib.hid hz
        clear hz
        repeat (first | go_skip | go_guarded | go_step)
        go_ret
        refine ⟨0, k, true, rfl, HT.out.set_ 2 (.bool true), hk, (Turn.ofBelow HV.out).trans (tkTurn _ _ _ _), ?_⟩
        show After (rNum most (bs.drop k)) bs k true 0 0
        rw [HFC.out.1 HZ.out]
        exact ⟨rfl, rfl⟩
  exact AllReadyH.nil

set_option maxRecDepth 100000 in
set_option maxHeartbeats 4000000 in
theorem rOctet_any (g : Nat) (A : Option Addr) (n c k most : Nat) (bad : Bool) (bs : List UInt8) (w : World) (hk0 : Tk w g A n c k bad) (hr : Rd w g 1 A n (bs.map bv)) (hc : n ≤ c) (hm : n ≤ 140737488355328) (hk : k ≤ n) :
    Calls Try.prog 40 #[.pointer (some ⟨g, 0, none⟩), .int .i64 (most : Int)] w fun e w' => ∃ (v k' : Nat) (bad' : Bool), e = .returned (.int .i64 (v : Int)) ∧ Tk w' g A n c k' bad' ∧ k' ≤ n ∧ Turn (fun i => i = g) w w' ∧ After ((rest bs k bad).bind (rByte most)) bs k' bad' v 0 := by
  have hl : bs.length = n := by simpa using hr.len1
  have HT := Lib.hid (show Bk w g 82 [.slice A n c, .int .i64 (k : Int), .bool bad] from hk0)
  have HR := Lib.hid hr
  have HL := Lib.hid hl
  clear hk0 hr hl
  go_enter Try.func40, Try.ntmps40
  repeat (first | go_skip | go_guarded | go_step)
  cases bad with
  | true =>
    refine wp_region_held_drew (S := fun V => Below w.heap.size w V) (by kernel_rfl) ?_ (fun hHeld => ?_)
    · exact (Below.refl w.heap.size w).drew
    refine wpAnyH_take (i := 0) (oi := ?oid17) (v := ?vd17) ?hod17 (by kernel_rfl) ?hfd17 ?hrd17 ?hQd17 ?hyd17 hHeld ?restd17
    case hod17 => (simp only [List.getElem?_toArray, List.getElem?_cons_succ, List.getElem?_cons_zero]; exact rfl)
    case hfd17 => kernel_rfl
    case hrd17 => kernel_rfl
    case hQd17 => exact fun _ _ _ h => h
    case hyd17 =>
      refine Or.inl ⟨by rfl, ?_⟩
      intro V hSV
      go_simp
      (try with_reducible rfl)
    try simp only [Act.put, List.setIfInBounds_toArray, List.set_cons_zero, List.set_cons_succ]
    refine wpAnyH_take (i := 1) (oi := ?oid18) (v := ?vd18) ?hod18 (by kernel_rfl) ?hfd18 ?hrd18 ?hQd18 ?hyd18 hHeld ?restd18
    case hod18 => (simp only [List.getElem?_toArray, List.getElem?_cons_succ, List.getElem?_cons_zero]; exact rfl)
    case hfd18 => kernel_rfl
    case hrd18 => kernel_rfl
    case hQd18 => exact fun _ _ _ h => h
    case hyd18 =>
      refine Or.inl ⟨by rfl, ?_⟩
      intro V hSV
      go_simp
      (try with_reducible rfl)
    try simp only [Act.put, List.setIfInBounds_toArray, List.set_cons_zero, List.set_cons_succ]
    refine wpAnyH_take (i := 2) (oi := ?oid19) (v := ?vd19) ?hod19 (by kernel_rfl) ?hfd19 ?hrd19 ?hQd19 ?hyd19 hHeld ?restd19
    case hod19 => (simp only [List.getElem?_toArray, List.getElem?_cons_succ, List.getElem?_cons_zero]; exact rfl)
    case hfd19 => kernel_rfl
    case hrd19 => kernel_rfl
    case hQd19 => exact fun _ _ _ h => h
    case hyd19 =>
      refine Or.inl ⟨by rfl, ?_⟩
      intro V hSV
      go_simp
      (try with_reducible rfl)
    try simp only [Act.put, List.setIfInBounds_toArray, List.set_cons_zero, List.set_cons_succ]
    refine wpAnyH_take (i := 3) (oi := ?oid20) (v := .bool true) ?hod20 (by kernel_rfl) ?hfd20 ?hrd20 ?hQd20 ?hyd20 hHeld ?restd20
    case hod20 => (simp only [List.getElem?_toArray, List.getElem?_cons_succ, List.getElem?_cons_zero]; exact rfl)
    case hfd20 => kernel_rfl
    case hrd20 => kernel_rfl
    case hQd20 => exact fun _ _ _ h => h
    case hyd20 =>
      refine Or.inl ⟨by rfl, ?_⟩
      intro V hSV
      have q2 := HT.out.readT hSV 2 rfl
      go_simp
      (try with_reducible rfl)
    try simp only [Act.put, List.setIfInBounds_toArray, List.set_cons_zero, List.set_cons_succ]
    refine wpAnyH_take (i := 4) (oi := ?oid21) (v := .bool true) ?hod21 (by kernel_rfl) ?hfd21 ?hrd21 ?hQd21 ?hyd21 hHeld ?restd21
    case hod21 => (simp only [List.getElem?_toArray, List.getElem?_cons_succ, List.getElem?_cons_zero]; exact rfl)
    case hfd21 => kernel_rfl
    case hrd21 => kernel_rfl
    case hQd21 => exact fun _ _ _ h => h
    case hyd21 =>
      refine Or.inl ⟨by rfl, ?_⟩
      intro V hSV
      go_simp
      (try with_reducible rfl)
    try simp only [Act.put, List.setIfInBounds_toArray, List.set_cons_zero, List.set_cons_succ]
    refine wpAnyH_take (i := 5) (oi := ?oid22) (v := undef) ?hod22 (by kernel_rfl) ?hfd22 ?hrd22 ?hQd22 ?hyd22 hHeld ?restd22
    case hod22 => (simp only [List.getElem?_toArray, List.getElem?_cons_succ, List.getElem?_cons_zero]; exact rfl)
    case hfd22 => kernel_rfl
    case hrd22 => kernel_rfl
    case hQd22 => exact fun _ _ _ h => h
    case hyd22 =>
      exact Or.inr ⟨by rfl, rfl⟩
    try simp only [Act.put, List.setIfInBounds_toArray, List.set_cons_zero, List.set_cons_succ]
    refine wpAnyH_take (i := 6) (oi := ?oid23) (v := undef) ?hod23 (by kernel_rfl) ?hfd23 ?hrd23 ?hQd23 ?hyd23 hHeld ?restd23
    case hod23 => (simp only [List.getElem?_toArray, List.getElem?_cons_succ, List.getElem?_cons_zero]; exact rfl)
    case hfd23 => kernel_rfl
    case hrd23 => kernel_rfl
    case hQd23 => exact fun _ _ _ h => h
    case hyd23 =>
      exact Or.inr ⟨by rfl, rfl⟩
    try simp only [Act.put, List.setIfInBounds_toArray, List.set_cons_zero, List.set_cons_succ]
    refine wpAnyH_take (i := 7) (oi := ?oid24) (v := undef) ?hod24 (by kernel_rfl) ?hfd24 ?hrd24 ?hQd24 ?hyd24 hHeld ?restd24
    case hod24 => (simp only [List.getElem?_toArray, List.getElem?_cons_succ, List.getElem?_cons_zero]; exact rfl)
    case hfd24 => kernel_rfl
    case hrd24 => kernel_rfl
    case hQd24 => exact fun _ _ _ h => h
    case hyd24 =>
      exact Or.inr ⟨by rfl, rfl⟩
    try simp only [Act.put, List.setIfInBounds_toArray, List.set_cons_zero, List.set_cons_succ]
    refine wpAnyH_take (i := 8) (oi := ?oid25) (v := undef) ?hod25 (by kernel_rfl) ?hfd25 ?hrd25 ?hQd25 ?hyd25 hHeld ?restd25
    case hod25 => (simp only [List.getElem?_toArray, List.getElem?_cons_succ, List.getElem?_cons_zero]; exact rfl)
    case hfd25 => kernel_rfl
    case hrd25 => kernel_rfl
    case hQd25 => exact fun _ _ _ h => h
    case hyd25 =>
      exact Or.inr ⟨by rfl, rfl⟩
    try simp only [Act.put, List.setIfInBounds_toArray, List.set_cons_zero, List.set_cons_succ]
    refine wpAnyH_take (i := 9) (oi := ?oid26) (v := undef) ?hod26 (by kernel_rfl) ?hfd26 ?hrd26 ?hQd26 ?hyd26 hHeld ?restd26
    case hod26 => (simp only [List.getElem?_toArray, List.getElem?_cons_succ, List.getElem?_cons_zero]; exact rfl)
    case hfd26 => kernel_rfl
    case hrd26 => kernel_rfl
    case hQd26 => exact fun _ _ _ h => h
    case hyd26 =>
      exact Or.inr ⟨by rfl, rfl⟩
    try simp only [Act.put, List.setIfInBounds_toArray, List.set_cons_zero, List.set_cons_succ]
    refine wpAnyH_take (i := 10) (oi := ?oid27) (v := undef) ?hod27 (by kernel_rfl) ?hfd27 ?hrd27 ?hQd27 ?hyd27 hHeld ?restd27
    case hod27 => (simp only [List.getElem?_toArray, List.getElem?_cons_succ, List.getElem?_cons_zero]; exact rfl)
    case hfd27 => kernel_rfl
    case hrd27 => kernel_rfl
    case hQd27 => exact fun _ _ _ h => h
    case hyd27 =>
      exact Or.inr ⟨by rfl, rfl⟩
    try simp only [Act.put, List.setIfInBounds_toArray, List.set_cons_zero, List.set_cons_succ]
    refine wpAnyH_take (i := 11) (oi := ?oid28) (v := undef) ?hod28 (by kernel_rfl) ?hfd28 ?hrd28 ?hQd28 ?hyd28 hHeld ?restd28
    case hod28 => (simp only [List.getElem?_toArray, List.getElem?_cons_succ, List.getElem?_cons_zero]; exact rfl)
    case hfd28 => kernel_rfl
    case hrd28 => kernel_rfl
    case hQd28 => exact fun _ _ _ h => h
    case hyd28 =>
      exact Or.inr ⟨by rfl, rfl⟩
    try simp only [Act.put, List.setIfInBounds_toArray, List.set_cons_zero, List.set_cons_succ]
    refine wpAnyH_take (i := 12) (oi := ?oid29) (v := undef) ?hod29 (by kernel_rfl) ?hfd29 ?hrd29 ?hQd29 ?hyd29 hHeld ?restd29
    case hod29 => (simp only [List.getElem?_toArray, List.getElem?_cons_succ, List.getElem?_cons_zero]; exact rfl)
    case hfd29 => kernel_rfl
    case hrd29 => kernel_rfl
    case hQd29 => exact fun _ _ _ h => h
    case hyd29 =>
      exact Or.inr ⟨by rfl, rfl⟩
    try simp only [Act.put, List.setIfInBounds_toArray, List.set_cons_zero, List.set_cons_succ]
    refine wpAnyH_take (i := 13) (oi := ?oid30) (v := undef) ?hod30 (by kernel_rfl) ?hfd30 ?hrd30 ?hQd30 ?hyd30 hHeld ?restd30
    case hod30 => (simp only [List.getElem?_toArray, List.getElem?_cons_succ, List.getElem?_cons_zero]; exact rfl)
    case hfd30 => kernel_rfl
    case hrd30 => kernel_rfl
    case hQd30 => exact fun _ _ _ h => h
    case hyd30 =>
      exact Or.inr ⟨by rfl, rfl⟩
    try simp only [Act.put, List.setIfInBounds_toArray, List.set_cons_zero, List.set_cons_succ]
    refine wpAnyH_take (i := 14) (oi := ?oid31) (v := undef) ?hod31 (by kernel_rfl) ?hfd31 ?hrd31 ?hQd31 ?hyd31 hHeld ?restd31
    case hod31 => (simp only [List.getElem?_toArray, List.getElem?_cons_succ, List.getElem?_cons_zero]; exact rfl)
    case hfd31 => kernel_rfl
    case hrd31 => kernel_rfl
    case hQd31 => exact fun _ _ _ h => h
    case hyd31 =>
      exact Or.inr ⟨by rfl, rfl⟩
    try simp only [Act.put, List.setIfInBounds_toArray, List.set_cons_zero, List.set_cons_succ]
    refine wpAnyH_take (i := 15) (oi := ?oid32) (v := .bool true) ?hod32 (by kernel_rfl) ?hfd32 ?hrd32 ?hQd32 ?hyd32 hHeld ?restd32
    case hod32 => (simp only [List.getElem?_toArray, List.getElem?_cons_succ, List.getElem?_cons_zero]; exact rfl)
    case hfd32 => kernel_rfl
    case hrd32 => kernel_rfl
    case hQd32 => exact fun _ _ _ h => h
    case hyd32 =>
      refine Or.inl ⟨by rfl, ?_⟩
      intro V hSV
      go_simp
      (try with_reducible rfl)
    try simp only [Act.put, List.setIfInBounds_toArray, List.set_cons_zero, List.set_cons_succ]
    refine wpAnyH_take (i := 16) (oi := ?oid33) (v := .bool true) ?hod33 (by kernel_rfl) ?hfd33 ?hrd33 ?hQd33 ?hyd33 hHeld ?restd33
    case hod33 => (simp only [List.getElem?_toArray, List.getElem?_cons_succ, List.getElem?_cons_zero]; exact rfl)
    case hfd33 => kernel_rfl
    case hrd33 => kernel_rfl
    case hQd33 => exact fun _ _ _ h => h
    case hyd33 =>
      refine Or.inl ⟨by rfl, ?_⟩
      intro V hSV
      go_simp
      (try with_reducible rfl)
    try simp only [Act.put, List.setIfInBounds_toArray, List.set_cons_zero, List.set_cons_succ]
    refine wpAnyH_take (i := 17) (oi := ?oid34) (v := undef) ?hod34 (by kernel_rfl) ?hfd34 ?hrd34 ?hQd34 ?hyd34 hHeld ?restd34
    case hod34 => (simp only [List.getElem?_toArray, List.getElem?_cons_succ, List.getElem?_cons_zero]; exact rfl)
    case hfd34 => kernel_rfl
    case hrd34 => kernel_rfl
    case hQd34 => exact fun _ _ _ h => h
    case hyd34 =>
      exact Or.inr ⟨by rfl, rfl⟩
    try simp only [Act.put, List.setIfInBounds_toArray, List.set_cons_zero, List.set_cons_succ]
    refine wpAnyH_take (i := 18) (oi := ?oid35) (v := undef) ?hod35 (by kernel_rfl) ?hfd35 ?hrd35 ?hQd35 ?hyd35 hHeld ?restd35
    case hod35 => (simp only [List.getElem?_toArray, List.getElem?_cons_succ, List.getElem?_cons_zero]; exact rfl)
    case hfd35 => kernel_rfl
    case hrd35 => kernel_rfl
    case hQd35 => exact fun _ _ _ h => h
    case hyd35 =>
      exact Or.inr ⟨by rfl, rfl⟩
    try simp only [Act.put, List.setIfInBounds_toArray, List.set_cons_zero, List.set_cons_succ]
    refine wpAnyH_take (i := 19) (oi := ?oid36) (v := undef) ?hod36 (by kernel_rfl) ?hfd36 ?hrd36 ?hQd36 ?hyd36 hHeld ?restd36
    case hod36 => (simp only [List.getElem?_toArray, List.getElem?_cons_succ, List.getElem?_cons_zero]; exact rfl)
    case hfd36 => kernel_rfl
    case hrd36 => kernel_rfl
    case hQd36 => exact fun _ _ _ h => h
    case hyd36 =>
      exact Or.inr ⟨by rfl, rfl⟩
    try simp only [Act.put, List.setIfInBounds_toArray, List.set_cons_zero, List.set_cons_succ]
    refine wpAnyH_take (i := 20) (oi := ?oid37) (v := undef) ?hod37 (by kernel_rfl) ?hfd37 ?hrd37 ?hQd37 ?hyd37 hHeld ?restd37
    case hod37 => (simp only [List.getElem?_toArray, List.getElem?_cons_succ, List.getElem?_cons_zero]; exact rfl)
    case hfd37 => kernel_rfl
    case hrd37 => kernel_rfl
    case hQd37 => exact fun _ _ _ h => h
    case hyd37 =>
      exact Or.inr ⟨by rfl, rfl⟩
    try simp only [Act.put, List.setIfInBounds_toArray, List.set_cons_zero, List.set_cons_succ]
    refine wpAnyH_take (i := 21) (oi := ?oid38) (v := undef) ?hod38 (by kernel_rfl) ?hfd38 ?hrd38 ?hQd38 ?hyd38 hHeld ?restd38
    case hod38 => (simp only [List.getElem?_toArray, List.getElem?_cons_succ, List.getElem?_cons_zero]; exact rfl)
    case hfd38 => kernel_rfl
    case hrd38 => kernel_rfl
    case hQd38 => exact fun _ _ _ h => h
    case hyd38 =>
      exact Or.inr ⟨by rfl, rfl⟩
    try simp only [Act.put, List.setIfInBounds_toArray, List.set_cons_zero, List.set_cons_succ]
    refine wpAnyH_take (i := 22) (oi := ?oid39) (v := undef) ?hod39 (by kernel_rfl) ?hfd39 ?hrd39 ?hQd39 ?hyd39 hHeld ?restd39
    case hod39 => (simp only [List.getElem?_toArray, List.getElem?_cons_succ, List.getElem?_cons_zero]; exact rfl)
    case hfd39 => kernel_rfl
    case hrd39 => kernel_rfl
    case hQd39 => exact fun _ _ _ h => h
    case hyd39 =>
      exact Or.inr ⟨by rfl, rfl⟩
    try simp only [Act.put, List.setIfInBounds_toArray, List.set_cons_zero, List.set_cons_succ]
    refine wpAnyH_take (i := 23) (oi := ?oid40) (v := undef) ?hod40 (by kernel_rfl) ?hfd40 ?hrd40 ?hQd40 ?hyd40 hHeld ?restd40
    case hod40 => (simp only [List.getElem?_toArray, List.getElem?_cons_succ, List.getElem?_cons_zero]; exact rfl)
    case hfd40 => kernel_rfl
    case hrd40 => kernel_rfl
    case hQd40 => exact fun _ _ _ h => h
    case hyd40 =>
      exact Or.inr ⟨by rfl, rfl⟩
    try simp only [Act.put, List.setIfInBounds_toArray, List.set_cons_zero, List.set_cons_succ]
    refine wpAnyH_take (i := 24) (oi := ?oid41) (v := undef) ?hod41 (by kernel_rfl) ?hfd41 ?hrd41 ?hQd41 ?hyd41 hHeld ?restd41
    case hod41 => (simp only [List.getElem?_toArray, List.getElem?_cons_succ, List.getElem?_cons_zero]; exact rfl)
    case hfd41 => kernel_rfl
    case hrd41 => kernel_rfl
    case hQd41 => exact fun _ _ _ h => h
    case hyd41 =>
      exact Or.inr ⟨by rfl, rfl⟩
    try simp only [Act.put, List.setIfInBounds_toArray, List.set_cons_zero, List.set_cons_succ]
    refine wpAnyH_take (i := 25) (oi := ?oid42) (v := undef) ?hod42 (by kernel_rfl) ?hfd42 ?hrd42 ?hQd42 ?hyd42 hHeld ?restd42
    case hod42 => (simp only [List.getElem?_toArray, List.getElem?_cons_succ, List.getElem?_cons_zero]; exact rfl)
    case hfd42 => kernel_rfl
    case hrd42 => kernel_rfl
    case hQd42 => exact fun _ _ _ h => h
    case hyd42 =>
      exact Or.inr ⟨by rfl, rfl⟩
    try simp only [Act.put, List.setIfInBounds_toArray, List.set_cons_zero, List.set_cons_succ]
    refine wpAnyH_take (i := 26) (oi := ?oid43) (v := undef) ?hod43 (by kernel_rfl) ?hfd43 ?hrd43 ?hQd43 ?hyd43 hHeld ?restd43
    case hod43 => (simp only [List.getElem?_toArray, List.getElem?_cons_succ, List.getElem?_cons_zero]; exact rfl)
    case hfd43 => kernel_rfl
    case hrd43 => kernel_rfl
    case hQd43 => exact fun _ _ _ h => h
    case hyd43 =>
      exact Or.inr ⟨by rfl, rfl⟩
    try simp only [Act.put, List.setIfInBounds_toArray, List.set_cons_zero, List.set_cons_succ]
    refine wpAnyH_take (i := 27) (oi := ?oid44) (v := undef) ?hod44 (by kernel_rfl) ?hfd44 ?hrd44 ?hQd44 ?hyd44 hHeld ?restd44
    case hod44 => (simp only [List.getElem?_toArray, List.getElem?_cons_succ, List.getElem?_cons_zero]; exact rfl)
    case hfd44 => kernel_rfl
    case hrd44 => kernel_rfl
    case hQd44 => exact fun _ _ _ h => h
    case hyd44 =>
      exact Or.inr ⟨by rfl, rfl⟩
    try simp only [Act.put, List.setIfInBounds_toArray, List.set_cons_zero, List.set_cons_succ]
    refine wpAnyH_take (i := 28) (oi := ?oid45) (v := undef) ?hod45 (by kernel_rfl) ?hfd45 ?hrd45 ?hQd45 ?hyd45 hHeld ?restd45
    case hod45 => (simp only [List.getElem?_toArray, List.getElem?_cons_succ, List.getElem?_cons_zero]; exact rfl)
    case hfd45 => kernel_rfl
    case hrd45 => kernel_rfl
    case hQd45 => exact fun _ _ _ h => h
    case hyd45 =>
      exact Or.inr ⟨by rfl, rfl⟩
    try simp only [Act.put, List.setIfInBounds_toArray, List.set_cons_zero, List.set_cons_succ]
    refine wpAnyH_take (i := 29) (oi := ?oid46) (v := undef) ?hod46 (by kernel_rfl) ?hfd46 ?hrd46 ?hQd46 ?hyd46 hHeld ?restd46
    case hod46 => (simp only [List.getElem?_toArray, List.getElem?_cons_succ, List.getElem?_cons_zero]; exact rfl)
    case hfd46 => kernel_rfl
    case hrd46 => kernel_rfl
    case hQd46 => exact fun _ _ _ h => h
    case hyd46 =>
      exact Or.inr ⟨by rfl, rfl⟩
    try simp only [Act.put, List.setIfInBounds_toArray, List.set_cons_zero, List.set_cons_succ]
    refine wpAnyH_take (i := 30) (oi := ?oid47) (v := .bool true) ?hod47 (by kernel_rfl) ?hfd47 ?hrd47 ?hQd47 ?hyd47 hHeld ?restd47
    case hod47 => (simp only [List.getElem?_toArray, List.getElem?_cons_succ, List.getElem?_cons_zero]; exact rfl)
    case hfd47 => kernel_rfl
    case hrd47 => kernel_rfl
    case hQd47 => exact fun _ _ _ h => h
    case hyd47 =>
      refine Or.inl ⟨by rfl, ?_⟩
      intro V hSV
      go_simp
      (try with_reducible rfl)
    try simp only [Act.put, List.setIfInBounds_toArray, List.set_cons_zero, List.set_cons_succ]
    refine wpAnyH_done (by kernel_rfl) ?_ _
    obtain ⟨V, hV, hv⟩ : ∃ V, V = _ ∧ Below w.heap.size w V := ⟨_, rfl, hHeld⟩
    rw [← hV]
    clear hV
    have HT := Lib.hid (HT.out.later hv)
    have hbg := HT.out
    have t0 := hbg.readT (Below.refl _ _) 0 rfl
    have t1 := hbg.readT (Below.refl _ _) 1 rfl
    have t2 := hbg.readT (Below.refl _ _) 2 rfl
    have tf1 := hbg.frozen 1
    have tf2 := hbg.frozen 2
    have HV := Lib.hid hv
    clear hbg hv hHeld
    repeat (first | go_skip | go_guarded | go_step)
    go_ret
    refine ⟨0, k, true, rfl, HT.out.set_ 2 (.bool true), hk, (Turn.ofBelow HV.out).trans (tkTurn _ _ _ _), ?_⟩
    exact ⟨rfl, rfl⟩
  | false =>
    by_cases hkn : k < n
    · have hlb : k < bs.length := by rw [HL.out]; exact hkn
      obtain ⟨b, o, hA, hb, hcell⟩ := HR.out.2 (by omega)
      subst hA
      obtain ⟨x, hx⟩ : ∃ y, y = bs[k] := ⟨_, rfl⟩
      have hcx : w.cell? ⟨b, o + k, none⟩ = some (.int .u8 (x.toNat : Int)) := by rw [hx]; exact hcell k _ (by simp [List.getElem?_eq_getElem hlb, bv])
      have hdr : bs.drop k = x :: bs.drop (k + 1) := by rw [hx]; exact List.drop_eq_getElem_cons hlb
      have HDR := Lib.hid hdr
      have HCX := Lib.hid hcx
      have hbg := Nat.lt_trans hb HT.out.lt
      have d0 : decide (n ≤ k) = false := by simp; omega
      have d1 : decide ((n : Int) ≤ (k : Int)) = false := by simp; omega
      have hki : (k : Int) < (n : Int) := by omega
      have hw1 : IntKind.i64.wrap ((k : Int) + 1) = (k : Int) + 1 := by rw [IntKind.wrap_i64] <;> omega
      have hw2 : IntKind.i64.wrap ((k : Int) + 1 - 1) = (k : Int) := by rw [show (k : Int) + 1 - 1 = (k : Int) from by omega, IntKind.wrap_i64] <;> omega
      have h8 := u8_lt x
      have hwx : IntKind.i64.wrap (x.toNat : Int) = (x.toNat : Int) := by rw [IntKind.wrap_i64] <;> omega
      have hwk : IntKind.i64.wrap (k : Int) = (k : Int) := by rw [IntKind.wrap_i64] <;> omega
      clear hx hcx hdr hcell h8
      by_cases hle : x.toNat ≤ most
      · have e0 : decide (most < x.toNat) = false := by simp; omega
        have e1 : decide ((most : Int) < (x.toNat : Int)) = false := by simp; omega
        refine wp_region_held_drew (S := fun V => Below w.heap.size w V) (by kernel_rfl) ?_ (fun hHeld => ?_)
        · exact (Below.refl w.heap.size w).drew
        refine wpAnyH_take (i := 0) (oi := ?oid110) (v := ?vd110) ?hod110 (by kernel_rfl) ?hfd110 ?hrd110 ?hQd110 ?hyd110 hHeld ?restd110
        case hod110 => (simp only [List.getElem?_toArray, List.getElem?_cons_succ, List.getElem?_cons_zero]; exact rfl)
        case hfd110 => kernel_rfl
        case hrd110 => kernel_rfl
        case hQd110 => exact fun _ _ _ h => h
        case hyd110 =>
          refine Or.inl ⟨by rfl, ?_⟩
          intro V hSV
          go_simp
          (try with_reducible rfl)
        try simp only [Act.put, List.setIfInBounds_toArray, List.set_cons_zero, List.set_cons_succ]
        refine wpAnyH_take (i := 1) (oi := ?oid111) (v := ?vd111) ?hod111 (by kernel_rfl) ?hfd111 ?hrd111 ?hQd111 ?hyd111 hHeld ?restd111
        case hod111 => (simp only [List.getElem?_toArray, List.getElem?_cons_succ, List.getElem?_cons_zero]; exact rfl)
        case hfd111 => kernel_rfl
        case hrd111 => kernel_rfl
        case hQd111 => exact fun _ _ _ h => h
        case hyd111 =>
          refine Or.inl ⟨by rfl, ?_⟩
          intro V hSV
          go_simp
          (try with_reducible rfl)
        try simp only [Act.put, List.setIfInBounds_toArray, List.set_cons_zero, List.set_cons_succ]
        refine wpAnyH_take (i := 2) (oi := ?oid112) (v := ?vd112) ?hod112 (by kernel_rfl) ?hfd112 ?hrd112 ?hQd112 ?hyd112 hHeld ?restd112
        case hod112 => (simp only [List.getElem?_toArray, List.getElem?_cons_succ, List.getElem?_cons_zero]; exact rfl)
        case hfd112 => kernel_rfl
        case hrd112 => kernel_rfl
        case hQd112 => exact fun _ _ _ h => h
        case hyd112 =>
          refine Or.inl ⟨by rfl, ?_⟩
          intro V hSV
          go_simp
          (try with_reducible rfl)
        try simp only [Act.put, List.setIfInBounds_toArray, List.set_cons_zero, List.set_cons_succ]
        refine wpAnyH_take (i := 3) (oi := ?oid113) (v := .bool false) ?hod113 (by kernel_rfl) ?hfd113 ?hrd113 ?hQd113 ?hyd113 hHeld ?restd113
        case hod113 => (simp only [List.getElem?_toArray, List.getElem?_cons_succ, List.getElem?_cons_zero]; exact rfl)
        case hfd113 => kernel_rfl
        case hrd113 => kernel_rfl
        case hQd113 => exact fun _ _ _ h => h
        case hyd113 =>
          refine Or.inl ⟨by rfl, ?_⟩
          intro V hSV
          have q2 := HT.out.readT hSV 2 rfl
          go_simp
          (try with_reducible rfl)
        try simp only [Act.put, List.setIfInBounds_toArray, List.set_cons_zero, List.set_cons_succ]
        refine wpAnyH_take (i := 4) (oi := ?oid114) (v := .bool false) ?hod114 (by kernel_rfl) ?hfd114 ?hrd114 ?hQd114 ?hyd114 hHeld ?restd114
        case hod114 => (simp only [List.getElem?_toArray, List.getElem?_cons_succ, List.getElem?_cons_zero]; exact rfl)
        case hfd114 => kernel_rfl
        case hrd114 => kernel_rfl
        case hQd114 => exact fun _ _ _ h => h
        case hyd114 =>
          refine Or.inl ⟨by rfl, ?_⟩
          intro V hSV
          go_simp
          (try with_reducible rfl)
        try simp only [Act.put, List.setIfInBounds_toArray, List.set_cons_zero, List.set_cons_succ]
        refine wpAnyH_take (i := 5) (oi := ?oid115) (v := ?vd115) ?hod115 (by kernel_rfl) ?hfd115 ?hrd115 ?hQd115 ?hyd115 hHeld ?restd115
        case hod115 => (simp only [List.getElem?_toArray, List.getElem?_cons_succ, List.getElem?_cons_zero]; exact rfl)
        case hfd115 => kernel_rfl
        case hrd115 => kernel_rfl
        case hQd115 => exact fun _ _ _ h => h
        case hyd115 =>
          refine Or.inl ⟨by rfl, ?_⟩
          intro V hSV
          go_simp
          (try with_reducible rfl)
        try simp only [Act.put, List.setIfInBounds_toArray, List.set_cons_zero, List.set_cons_succ]
        refine wpAnyH_take (i := 6) (oi := ?oid116) (v := ?vd116) ?hod116 (by kernel_rfl) ?hfd116 ?hrd116 ?hQd116 ?hyd116 hHeld ?restd116
        case hod116 => (simp only [List.getElem?_toArray, List.getElem?_cons_succ, List.getElem?_cons_zero]; exact rfl)
        case hfd116 => kernel_rfl
        case hrd116 => kernel_rfl
        case hQd116 => exact fun _ _ _ h => h
        case hyd116 =>
          refine Or.inl ⟨by rfl, ?_⟩
          intro V hSV
          go_simp
          (try with_reducible rfl)
        try simp only [Act.put, List.setIfInBounds_toArray, List.set_cons_zero, List.set_cons_succ]
        refine wpAnyH_take (i := 7) (oi := ?oid117) (v := ?vd117) ?hod117 (by kernel_rfl) ?hfd117 ?hrd117 ?hQd117 ?hyd117 hHeld ?restd117
        case hod117 => (simp only [List.getElem?_toArray, List.getElem?_cons_succ, List.getElem?_cons_zero]; exact rfl)
        case hfd117 => kernel_rfl
        case hrd117 => kernel_rfl
        case hQd117 => exact fun _ _ _ h => h
        case hyd117 =>
          refine Or.inl ⟨by rfl, ?_⟩
          intro V hSV
          go_simp
          (try with_reducible rfl)
        try simp only [Act.put, List.setIfInBounds_toArray, List.set_cons_zero, List.set_cons_succ]
        refine wpAnyH_take (i := 8) (oi := ?oid118) (v := ?vd118) ?hod118 (by kernel_rfl) ?hfd118 ?hrd118 ?hQd118 ?hyd118 hHeld ?restd118
        case hod118 => (simp only [List.getElem?_toArray, List.getElem?_cons_succ, List.getElem?_cons_zero]; exact rfl)
        case hfd118 => kernel_rfl
        case hrd118 => kernel_rfl
        case hQd118 => exact fun _ _ _ h => h
        case hyd118 =>
          refine Or.inl ⟨by rfl, ?_⟩
          intro V hSV
          have q1 := HT.out.readT hSV 1 rfl
          go_simp
          (try with_reducible rfl)
        try simp only [Act.put, List.setIfInBounds_toArray, List.set_cons_zero, List.set_cons_succ]
        refine wpAnyH_take (i := 9) (oi := ?oid119) (v := ?vd119) ?hod119 (by kernel_rfl) ?hfd119 ?hrd119 ?hQd119 ?hyd119 hHeld ?restd119
        case hod119 => (simp only [List.getElem?_toArray, List.getElem?_cons_succ, List.getElem?_cons_zero]; exact rfl)
        case hfd119 => kernel_rfl
        case hrd119 => kernel_rfl
        case hQd119 => exact fun _ _ _ h => h
        case hyd119 =>
          refine Or.inl ⟨by rfl, ?_⟩
          intro V hSV
          go_simp
          (try with_reducible rfl)
        try simp only [Act.put, List.setIfInBounds_toArray, List.set_cons_zero, List.set_cons_succ]
        refine wpAnyH_take (i := 10) (oi := ?oid120) (v := ?vd120) ?hod120 (by kernel_rfl) ?hfd120 ?hrd120 ?hQd120 ?hyd120 hHeld ?restd120
        case hod120 => (simp only [List.getElem?_toArray, List.getElem?_cons_succ, List.getElem?_cons_zero]; exact rfl)
        case hfd120 => kernel_rfl
        case hrd120 => kernel_rfl
        case hQd120 => exact fun _ _ _ h => h
        case hyd120 =>
          refine Or.inl ⟨by rfl, ?_⟩
          intro V hSV
          go_simp
          (try with_reducible rfl)
        try simp only [Act.put, List.setIfInBounds_toArray, List.set_cons_zero, List.set_cons_succ]
        refine wpAnyH_take (i := 11) (oi := ?oid121) (v := ?vd121) ?hod121 (by kernel_rfl) ?hfd121 ?hrd121 ?hQd121 ?hyd121 hHeld ?restd121
        case hod121 => (simp only [List.getElem?_toArray, List.getElem?_cons_succ, List.getElem?_cons_zero]; exact rfl)
        case hfd121 => kernel_rfl
        case hrd121 => kernel_rfl
        case hQd121 => exact fun _ _ _ h => h
        case hyd121 =>
          refine Or.inl ⟨by rfl, ?_⟩
          intro V hSV
          go_simp
          (try with_reducible rfl)
        try simp only [Act.put, List.setIfInBounds_toArray, List.set_cons_zero, List.set_cons_succ]
        refine wpAnyH_take (i := 12) (oi := ?oid122) (v := ?vd122) ?hod122 (by kernel_rfl) ?hfd122 ?hrd122 ?hQd122 ?hyd122 hHeld ?restd122
        case hod122 => (simp only [List.getElem?_toArray, List.getElem?_cons_succ, List.getElem?_cons_zero]; exact rfl)
        case hfd122 => kernel_rfl
        case hrd122 => kernel_rfl
        case hQd122 => exact fun _ _ _ h => h
        case hyd122 =>
          refine Or.inl ⟨by rfl, ?_⟩
          intro V hSV
          have q0 := HT.out.readT hSV 0 rfl
          go_simp
          (try with_reducible rfl)
        try simp only [Act.put, List.setIfInBounds_toArray, List.set_cons_zero, List.set_cons_succ]
        refine wpAnyH_take (i := 13) (oi := ?oid123) (v := ?vd123) ?hod123 (by kernel_rfl) ?hfd123 ?hrd123 ?hQd123 ?hyd123 hHeld ?restd123
        case hod123 => (simp only [List.getElem?_toArray, List.getElem?_cons_succ, List.getElem?_cons_zero]; exact rfl)
        case hfd123 => kernel_rfl
        case hrd123 => kernel_rfl
        case hQd123 => exact fun _ _ _ h => h
        case hyd123 =>
          refine Or.inl ⟨by rfl, ?_⟩
          intro V hSV
          go_simp
          (try with_reducible rfl)
        try simp only [Act.put, List.setIfInBounds_toArray, List.set_cons_zero, List.set_cons_succ]
        refine wpAnyH_take (i := 14) (oi := ?oid124) (v := .bool false) ?hod124 (by kernel_rfl) ?hfd124 ?hrd124 ?hQd124 ?hyd124 hHeld ?restd124
        case hod124 => (simp only [List.getElem?_toArray, List.getElem?_cons_succ, List.getElem?_cons_zero]; exact rfl)
        case hfd124 => kernel_rfl
        case hrd124 => kernel_rfl
        case hQd124 => exact fun _ _ _ h => h
        case hyd124 =>
          refine Or.inl ⟨by rfl, ?_⟩
          intro V hSV
          go_simp
          (try with_reducible rfl)
        try simp only [Act.put, List.setIfInBounds_toArray, List.set_cons_zero, List.set_cons_succ]
        refine wpAnyH_take (i := 15) (oi := ?oid125) (v := .bool false) ?hod125 (by kernel_rfl) ?hfd125 ?hrd125 ?hQd125 ?hyd125 hHeld ?restd125
        case hod125 => (simp only [List.getElem?_toArray, List.getElem?_cons_succ, List.getElem?_cons_zero]; exact rfl)
        case hfd125 => kernel_rfl
        case hrd125 => kernel_rfl
        case hQd125 => exact fun _ _ _ h => h
        case hyd125 =>
          refine Or.inl ⟨by rfl, ?_⟩
          intro V hSV
          go_simp
          (try with_reducible rfl)
        try simp only [Act.put, List.setIfInBounds_toArray, List.set_cons_zero, List.set_cons_succ]
        refine wpAnyH_take (i := 16) (oi := ?oid126) (v := .bool false) ?hod126 (by kernel_rfl) ?hfd126 ?hrd126 ?hQd126 ?hyd126 hHeld ?restd126
        case hod126 => (simp only [List.getElem?_toArray, List.getElem?_cons_succ, List.getElem?_cons_zero]; exact rfl)
        case hfd126 => kernel_rfl
        case hrd126 => kernel_rfl
        case hQd126 => exact fun _ _ _ h => h
        case hyd126 =>
          refine Or.inl ⟨by rfl, ?_⟩
          intro V hSV
          go_simp
          (try with_reducible rfl)
        try simp only [Act.put, List.setIfInBounds_toArray, List.set_cons_zero, List.set_cons_succ]
        refine wpAnyH_take (i := 17) (oi := ?oid127) (v := ?vd127) ?hod127 (by kernel_rfl) ?hfd127 ?hrd127 ?hQd127 ?hyd127 hHeld ?restd127
        case hod127 => (simp only [List.getElem?_toArray, List.getElem?_cons_succ, List.getElem?_cons_zero]; exact rfl)
        case hfd127 => kernel_rfl
        case hrd127 => kernel_rfl
        case hQd127 => exact fun _ _ _ h => h
        case hyd127 =>
          refine Or.inl ⟨by rfl, ?_⟩
          intro V hSV
          go_simp
          (try with_reducible rfl)
        try simp only [Act.put, List.setIfInBounds_toArray, List.set_cons_zero, List.set_cons_succ]
        refine wpAnyH_take (i := 18) (oi := ?oid128) (v := ?vd128) ?hod128 (by kernel_rfl) ?hfd128 ?hrd128 ?hQd128 ?hyd128 hHeld ?restd128
        case hod128 => (simp only [List.getElem?_toArray, List.getElem?_cons_succ, List.getElem?_cons_zero]; exact rfl)
        case hfd128 => kernel_rfl
        case hrd128 => kernel_rfl
        case hQd128 => exact fun _ _ _ h => h
        case hyd128 =>
          refine Or.inl ⟨by rfl, ?_⟩
          intro V hSV
          go_simp
          (try with_reducible rfl)
        try simp only [Act.put, List.setIfInBounds_toArray, List.set_cons_zero, List.set_cons_succ]
        refine wpAnyH_take (i := 19) (oi := ?oid129) (v := ?vd129) ?hod129 (by kernel_rfl) ?hfd129 ?hrd129 ?hQd129 ?hyd129 hHeld ?restd129
        case hod129 => (simp only [List.getElem?_toArray, List.getElem?_cons_succ, List.getElem?_cons_zero]; exact rfl)
        case hfd129 => kernel_rfl
        case hrd129 => kernel_rfl
        case hQd129 => exact fun _ _ _ h => h
        case hyd129 =>
          refine Or.inl ⟨by rfl, ?_⟩
          intro V hSV
          go_simp
          (try with_reducible rfl)
        try simp only [Act.put, List.setIfInBounds_toArray, List.set_cons_zero, List.set_cons_succ]
        refine wpAnyH_take (i := 20) (oi := ?oid130) (v := ?vd130) ?hod130 (by kernel_rfl) ?hfd130 ?hrd130 ?hQd130 ?hyd130 hHeld ?restd130
        case hod130 => (simp only [List.getElem?_toArray, List.getElem?_cons_succ, List.getElem?_cons_zero]; exact rfl)
        case hfd130 => kernel_rfl
        case hrd130 => kernel_rfl
        case hQd130 => exact fun _ _ _ h => h
        case hyd130 =>
          refine Or.inl ⟨by rfl, ?_⟩
          intro V hSV
          have q0 := HT.out.readT hSV 0 rfl
          go_simp
          (try with_reducible rfl)
        try simp only [Act.put, List.setIfInBounds_toArray, List.set_cons_zero, List.set_cons_succ]
        refine wpAnyH_take (i := 21) (oi := ?oid131) (v := ?vd131) ?hod131 (by kernel_rfl) ?hfd131 ?hrd131 ?hQd131 ?hyd131 hHeld ?restd131
        case hod131 => (simp only [List.getElem?_toArray, List.getElem?_cons_succ, List.getElem?_cons_zero]; exact rfl)
        case hfd131 => kernel_rfl
        case hrd131 => kernel_rfl
        case hQd131 => exact fun _ _ _ h => h
        case hyd131 =>
          refine Or.inl ⟨by rfl, ?_⟩
          intro V hSV
          go_simp
          (try with_reducible rfl)
        try simp only [Act.put, List.setIfInBounds_toArray, List.set_cons_zero, List.set_cons_succ]
        refine wpAnyH_take (i := 22) (oi := ?oid132) (v := ?vd132) ?hod132 (by kernel_rfl) ?hfd132 ?hrd132 ?hQd132 ?hyd132 hHeld ?restd132
        case hod132 => (simp only [List.getElem?_toArray, List.getElem?_cons_succ, List.getElem?_cons_zero]; exact rfl)
        case hfd132 => kernel_rfl
        case hrd132 => kernel_rfl
        case hQd132 => exact fun _ _ _ h => h
        case hyd132 =>
          refine Or.inl ⟨by rfl, ?_⟩
          intro V hSV
          go_simp
          (try with_reducible rfl)
        try simp only [Act.put, List.setIfInBounds_toArray, List.set_cons_zero, List.set_cons_succ]
        refine wpAnyH_take (i := 23) (oi := ?oid133) (v := ?vd133) ?hod133 (by kernel_rfl) ?hfd133 ?hrd133 ?hQd133 ?hyd133 hHeld ?restd133
        case hod133 => (simp only [List.getElem?_toArray, List.getElem?_cons_succ, List.getElem?_cons_zero]; exact rfl)
        case hfd133 => kernel_rfl
        case hrd133 => kernel_rfl
        case hQd133 => exact fun _ _ _ h => h
        case hyd133 =>
          refine Or.inl ⟨by rfl, ?_⟩
          intro V hSV
          go_simp
          (try with_reducible rfl)
        try simp only [Act.put, List.setIfInBounds_toArray, List.set_cons_zero, List.set_cons_succ]
        refine wpAnyH_take (i := 24) (oi := ?oid134) (v := ?vd134) ?hod134 (by kernel_rfl) ?hfd134 ?hrd134 ?hQd134 ?hyd134 hHeld ?restd134
        case hod134 => (simp only [List.getElem?_toArray, List.getElem?_cons_succ, List.getElem?_cons_zero]; exact rfl)
        case hfd134 => kernel_rfl
        case hrd134 => kernel_rfl
        case hQd134 => exact fun _ _ _ h => h
        case hyd134 =>
          refine Or.inl ⟨by rfl, ?_⟩
          intro V hSV
          have q1 := HT.out.readT hSV 1 rfl
          go_simp
          (try with_reducible rfl)
        try simp only [Act.put, List.setIfInBounds_toArray, List.set_cons_zero, List.set_cons_succ]
        refine wpAnyH_take (i := 25) (oi := ?oid135) (v := ?vd135) ?hod135 (by kernel_rfl) ?hfd135 ?hrd135 ?hQd135 ?hyd135 hHeld ?restd135
        case hod135 => (simp only [List.getElem?_toArray, List.getElem?_cons_succ, List.getElem?_cons_zero]; exact rfl)
        case hfd135 => kernel_rfl
        case hrd135 => kernel_rfl
        case hQd135 => exact fun _ _ _ h => h
        case hyd135 =>
          refine Or.inl ⟨by rfl, ?_⟩
          intro V hSV
          go_simp
          (try with_reducible rfl)
        try simp only [Act.put, List.setIfInBounds_toArray, List.set_cons_zero, List.set_cons_succ]
        refine wpAnyH_take (i := 26) (oi := ?oid136) (v := ?vd136) ?hod136 (by kernel_rfl) ?hfd136 ?hrd136 ?hQd136 ?hyd136 hHeld ?restd136
        case hod136 => (simp only [List.getElem?_toArray, List.getElem?_cons_succ, List.getElem?_cons_zero]; exact rfl)
        case hfd136 => kernel_rfl
        case hrd136 => kernel_rfl
        case hQd136 => exact fun _ _ _ h => h
        case hyd136 =>
          refine Or.inl ⟨by rfl, ?_⟩
          intro V hSV
          have q := (Below.cell (p := ⟨b, o + k, none⟩) hSV hbg).trans HCX.out
          go_simp
          (try with_reducible rfl)
        try simp only [Act.put, List.setIfInBounds_toArray, List.set_cons_zero, List.set_cons_succ]
        refine wpAnyH_take (i := 27) (oi := ?oid137) (v := .int .i64 (x.toNat : Int)) ?hod137 (by kernel_rfl) ?hfd137 ?hrd137 ?hQd137 ?hyd137 hHeld ?restd137
        case hod137 => (simp only [List.getElem?_toArray, List.getElem?_cons_succ, List.getElem?_cons_zero]; exact rfl)
        case hfd137 => kernel_rfl
        case hrd137 => kernel_rfl
        case hQd137 => exact fun _ _ _ h => h
        case hyd137 =>
          refine Or.inl ⟨by rfl, ?_⟩
          intro V hSV
          go_simp
          (try with_reducible rfl)
        try simp only [Act.put, List.setIfInBounds_toArray, List.set_cons_zero, List.set_cons_succ]
        refine wpAnyH_take (i := 28) (oi := ?oid138) (v := ?vd138) ?hod138 (by kernel_rfl) ?hfd138 ?hrd138 ?hQd138 ?hyd138 hHeld ?restd138
        case hod138 => (simp only [List.getElem?_toArray, List.getElem?_cons_succ, List.getElem?_cons_zero]; exact rfl)
        case hfd138 => kernel_rfl
        case hrd138 => kernel_rfl
        case hQd138 => exact fun _ _ _ h => h
        case hyd138 =>
          refine Or.inl ⟨by rfl, ?_⟩
          intro V hSV
          go_simp
          (try with_reducible rfl)
        try simp only [Act.put, List.setIfInBounds_toArray, List.set_cons_zero, List.set_cons_succ]
        refine wpAnyH_take (i := 29) (oi := ?oid139) (v := .bool false) ?hod139 (by kernel_rfl) ?hfd139 ?hrd139 ?hQd139 ?hyd139 hHeld ?restd139
        case hod139 => (simp only [List.getElem?_toArray, List.getElem?_cons_succ, List.getElem?_cons_zero]; exact rfl)
        case hfd139 => kernel_rfl
        case hrd139 => kernel_rfl
        case hQd139 => exact fun _ _ _ h => h
        case hyd139 =>
          refine Or.inl ⟨by rfl, ?_⟩
          intro V hSV
          go_simp
          (try with_reducible rfl)
        try simp only [Act.put, List.setIfInBounds_toArray, List.set_cons_zero, List.set_cons_succ]
        refine wpAnyH_take (i := 30) (oi := ?oid140) (v := .bool false) ?hod140 (by kernel_rfl) ?hfd140 ?hrd140 ?hQd140 ?hyd140 hHeld ?restd140
        case hod140 => (simp only [List.getElem?_toArray, List.getElem?_cons_succ, List.getElem?_cons_zero]; exact rfl)
        case hfd140 => kernel_rfl
        case hrd140 => kernel_rfl
        case hQd140 => exact fun _ _ _ h => h
        case hyd140 =>
          refine Or.inl ⟨by rfl, ?_⟩
          intro V hSV
          go_simp
          (try with_reducible rfl)
        try simp only [Act.put, List.setIfInBounds_toArray, List.set_cons_zero, List.set_cons_succ]
        refine wpAnyH_done (by kernel_rfl) ?_ _
        obtain ⟨V, hV, hv⟩ : ∃ V, V = _ ∧ Below w.heap.size w V := ⟨_, rfl, hHeld⟩
        rw [← hV]
        clear hV
        have HT := Lib.hid (HT.out.later hv)
        have hbg := HT.out
        have t0 := hbg.readT (Below.refl _ _) 0 rfl
        have t1 := hbg.readT (Below.refl _ _) 1 rfl
        have t2 := hbg.readT (Below.refl _ _) 2 rfl
        have tf1 := hbg.frozen 1
        have tf2 := hbg.frozen 2
        have HV := Lib.hid hv
        clear hbg hv hHeld
        go_upto_region 5 with (fail)
        obtain ⟨Z, hZ⟩ : ∃ Z, Z = V.setCell ⟨g, 1, none⟩ (.int .i64 ((k : Int) + 1)) := ⟨_, rfl⟩
        rw [← hZ]
        have HT2 := Lib.hid (show Bk Z g 82 [.slice (some ⟨b, o, none⟩) n c, .int .i64 ((k + 1 : Nat) : Int), .bool false] by rw [hZ]; exact HT.out.set_ 1 (.int .i64 ((k : Int) + 1)))
        have HTU := Lib.hid (show Turn (fun i => i = g) w Z by rw [hZ]; exact (Turn.ofBelow HV.out).trans (tkTurn _ _ _ _))
        have HCZ := Lib.hid ((HTU.out.cell (p := ⟨b, o + k, none⟩) hbg (fun e => by have := hb; dsimp only at e; omega)).trans HCX.out)
        have hbz := Nat.lt_of_lt_of_le hbg HTU.out.size
        have hki1 : (0 : Int) ≤ (k : Int) + 1 - 1 := by omega
        clear hZ t0 t1 t2 tf1 tf2
        refine wp_region_held_drew (S := fun V => Below Z.heap.size Z V) (by kernel_rfl) ?_ (fun hHeld => ?_)
        · exact (Below.refl Z.heap.size Z).drew
        refine wpAnyH_take (i := 0) (oi := ?oid141) (v := ?vd141) ?hod141 (by kernel_rfl) ?hfd141 ?hrd141 ?hQd141 ?hyd141 hHeld ?restd141
        case hod141 => (simp only [List.getElem?_toArray, List.getElem?_cons_succ, List.getElem?_cons_zero]; exact rfl)
        case hfd141 => kernel_rfl
        case hrd141 => kernel_rfl
        case hQd141 => exact fun _ _ _ h => h
        case hyd141 =>
          refine Or.inl ⟨by rfl, ?_⟩
          intro V hSV
          go_simp
          (try with_reducible rfl)
        try simp only [Act.put, List.setIfInBounds_toArray, List.set_cons_zero, List.set_cons_succ]
        refine wpAnyH_take (i := 1) (oi := ?oid142) (v := ?vd142) ?hod142 (by kernel_rfl) ?hfd142 ?hrd142 ?hQd142 ?hyd142 hHeld ?restd142
        case hod142 => (simp only [List.getElem?_toArray, List.getElem?_cons_succ, List.getElem?_cons_zero]; exact rfl)
        case hfd142 => kernel_rfl
        case hrd142 => kernel_rfl
        case hQd142 => exact fun _ _ _ h => h
        case hyd142 =>
          refine Or.inl ⟨by rfl, ?_⟩
          intro V hSV
          go_simp
          (try with_reducible rfl)
        try simp only [Act.put, List.setIfInBounds_toArray, List.set_cons_zero, List.set_cons_succ]
        refine wpAnyH_take (i := 2) (oi := ?oid143) (v := ?vd143) ?hod143 (by kernel_rfl) ?hfd143 ?hrd143 ?hQd143 ?hyd143 hHeld ?restd143
        case hod143 => (simp only [List.getElem?_toArray, List.getElem?_cons_succ, List.getElem?_cons_zero]; exact rfl)
        case hfd143 => kernel_rfl
        case hrd143 => kernel_rfl
        case hQd143 => exact fun _ _ _ h => h
        case hyd143 =>
          refine Or.inl ⟨by rfl, ?_⟩
          intro V hSV
          go_simp
          (try with_reducible rfl)
        try simp only [Act.put, List.setIfInBounds_toArray, List.set_cons_zero, List.set_cons_succ]
        refine wpAnyH_take (i := 3) (oi := ?oid144) (v := ?vd144) ?hod144 (by kernel_rfl) ?hfd144 ?hrd144 ?hQd144 ?hyd144 hHeld ?restd144
        case hod144 => (simp only [List.getElem?_toArray, List.getElem?_cons_succ, List.getElem?_cons_zero]; exact rfl)
        case hfd144 => kernel_rfl
        case hrd144 => kernel_rfl
        case hQd144 => exact fun _ _ _ h => h
        case hyd144 =>
          refine Or.inl ⟨by rfl, ?_⟩
          intro V hSV
          have q0 := HT2.out.readT hSV 0 rfl
          go_simp
          (try with_reducible rfl)
        try simp only [Act.put, List.setIfInBounds_toArray, List.set_cons_zero, List.set_cons_succ]
        refine wpAnyH_take (i := 4) (oi := ?oid145) (v := ?vd145) ?hod145 (by kernel_rfl) ?hfd145 ?hrd145 ?hQd145 ?hyd145 hHeld ?restd145
        case hod145 => (simp only [List.getElem?_toArray, List.getElem?_cons_succ, List.getElem?_cons_zero]; exact rfl)
        case hfd145 => kernel_rfl
        case hrd145 => kernel_rfl
        case hQd145 => exact fun _ _ _ h => h
        case hyd145 =>
          refine Or.inl ⟨by rfl, ?_⟩
          intro V hSV
          go_simp
          (try with_reducible rfl)
        try simp only [Act.put, List.setIfInBounds_toArray, List.set_cons_zero, List.set_cons_succ]
        refine wpAnyH_take (i := 5) (oi := ?oid146) (v := ?vd146) ?hod146 (by kernel_rfl) ?hfd146 ?hrd146 ?hQd146 ?hyd146 hHeld ?restd146
        case hod146 => (simp only [List.getElem?_toArray, List.getElem?_cons_succ, List.getElem?_cons_zero]; exact rfl)
        case hfd146 => kernel_rfl
        case hrd146 => kernel_rfl
        case hQd146 => exact fun _ _ _ h => h
        case hyd146 =>
          refine Or.inl ⟨by rfl, ?_⟩
          intro V hSV
          go_simp
          (try with_reducible rfl)
        try simp only [Act.put, List.setIfInBounds_toArray, List.set_cons_zero, List.set_cons_succ]
        refine wpAnyH_take (i := 6) (oi := ?oid147) (v := ?vd147) ?hod147 (by kernel_rfl) ?hfd147 ?hrd147 ?hQd147 ?hyd147 hHeld ?restd147
        case hod147 => (simp only [List.getElem?_toArray, List.getElem?_cons_succ, List.getElem?_cons_zero]; exact rfl)
        case hfd147 => kernel_rfl
        case hrd147 => kernel_rfl
        case hQd147 => exact fun _ _ _ h => h
        case hyd147 =>
          refine Or.inl ⟨by rfl, ?_⟩
          intro V hSV
          go_simp
          (try with_reducible rfl)
        try simp only [Act.put, List.setIfInBounds_toArray, List.set_cons_zero, List.set_cons_succ]
        refine wpAnyH_take (i := 7) (oi := ?oid148) (v := ?vd148) ?hod148 (by kernel_rfl) ?hfd148 ?hrd148 ?hQd148 ?hyd148 hHeld ?restd148
        case hod148 => (simp only [List.getElem?_toArray, List.getElem?_cons_succ, List.getElem?_cons_zero]; exact rfl)
        case hfd148 => kernel_rfl
        case hrd148 => kernel_rfl
        case hQd148 => exact fun _ _ _ h => h
        case hyd148 =>
          refine Or.inl ⟨by rfl, ?_⟩
          intro V hSV
          have q1 := HT2.out.readT hSV 1 rfl
          go_simp
          (try with_reducible rfl)
        try simp only [Act.put, List.setIfInBounds_toArray, List.set_cons_zero, List.set_cons_succ]
        refine wpAnyH_take (i := 8) (oi := ?oid149) (v := .int .i64 (k : Int)) ?hod149 (by kernel_rfl) ?hfd149 ?hrd149 ?hQd149 ?hyd149 hHeld ?restd149
        case hod149 => (simp only [List.getElem?_toArray, List.getElem?_cons_succ, List.getElem?_cons_zero]; exact rfl)
        case hfd149 => kernel_rfl
        case hrd149 => kernel_rfl
        case hQd149 => exact fun _ _ _ h => h
        case hyd149 =>
          refine Or.inl ⟨by rfl, ?_⟩
          intro V hSV
          go_simp
          (try with_reducible rfl)
        try simp only [Act.put, List.setIfInBounds_toArray, List.set_cons_zero, List.set_cons_succ]
        refine wpAnyH_take (i := 9) (oi := ?oid150) (v := ?vd150) ?hod150 (by kernel_rfl) ?hfd150 ?hrd150 ?hQd150 ?hyd150 hHeld ?restd150
        case hod150 => (simp only [List.getElem?_toArray, List.getElem?_cons_succ, List.getElem?_cons_zero]; exact rfl)
        case hfd150 => kernel_rfl
        case hrd150 => kernel_rfl
        case hQd150 => exact fun _ _ _ h => h
        case hyd150 =>
          refine Or.inl ⟨by rfl, ?_⟩
          intro V hSV
          go_simp
          (try with_reducible rfl)
        try simp only [Act.put, List.setIfInBounds_toArray, List.set_cons_zero, List.set_cons_succ]
        refine wpAnyH_take (i := 10) (oi := ?oid151) (v := ?vd151) ?hod151 (by kernel_rfl) ?hfd151 ?hrd151 ?hQd151 ?hyd151 hHeld ?restd151
        case hod151 => (simp only [List.getElem?_toArray, List.getElem?_cons_succ, List.getElem?_cons_zero]; exact rfl)
        case hfd151 => kernel_rfl
        case hrd151 => kernel_rfl
        case hQd151 => exact fun _ _ _ h => h
        case hyd151 =>
          refine Or.inl ⟨by rfl, ?_⟩
          intro V hSV
          have q := (Below.cell (p := ⟨b, o + k, none⟩) hSV hbz).trans HCZ.out
          go_simp
          (try with_reducible rfl)
        try simp only [Act.put, List.setIfInBounds_toArray, List.set_cons_zero, List.set_cons_succ]
        refine wpAnyH_take (i := 11) (oi := ?oid152) (v := .int .i64 (x.toNat : Int)) ?hod152 (by kernel_rfl) ?hfd152 ?hrd152 ?hQd152 ?hyd152 hHeld ?restd152
        case hod152 => (simp only [List.getElem?_toArray, List.getElem?_cons_succ, List.getElem?_cons_zero]; exact rfl)
        case hfd152 => kernel_rfl
        case hrd152 => kernel_rfl
        case hQd152 => exact fun _ _ _ h => h
        case hyd152 =>
          refine Or.inl ⟨by rfl, ?_⟩
          intro V hSV
          go_simp
          (try with_reducible rfl)
        try simp only [Act.put, List.setIfInBounds_toArray, List.set_cons_zero, List.set_cons_succ]
        refine wpAnyH_take (i := 12) (oi := ?oid153) (v := ?vd153) ?hod153 (by kernel_rfl) ?hfd153 ?hrd153 ?hQd153 ?hyd153 hHeld ?restd153
        case hod153 => (simp only [List.getElem?_toArray, List.getElem?_cons_succ, List.getElem?_cons_zero]; exact rfl)
        case hfd153 => kernel_rfl
        case hrd153 => kernel_rfl
        case hQd153 => exact fun _ _ _ h => h
        case hyd153 =>
          refine Or.inl ⟨by rfl, ?_⟩
          intro V hSV
          go_simp
          (try with_reducible rfl)
        try simp only [Act.put, List.setIfInBounds_toArray, List.set_cons_zero, List.set_cons_succ]
        refine wpAnyH_done (by kernel_rfl) ?_ _
        repeat (first | go_skip | go_guarded | go_step)
        go_ret
        refine ⟨x.toNat, k + 1, false, rfl, HT2.out.later hHeld, hkn, HTU.out.trans (Turn.ofBelow (Below.mono hHeld (Nat.le_refl _))), ?_⟩
        show After (rByte most (bs.drop k)) bs (k + 1) false x.toNat 0
        rw [HDR.out]
        simp only [rByte]
        rw [if_pos hle]
        exact ⟨rfl, rfl, rfl⟩
      · have e0 : decide (most < x.toNat) = true := by simp; omega
        have e1 : decide ((most : Int) < (x.toNat : Int)) = true := by simp; omega
        refine wp_region_held_drew (S := fun V => Below w.heap.size w V) (by kernel_rfl) ?_ (fun hHeld => ?_)
        · exact (Below.refl w.heap.size w).drew
        refine wpAnyH_take (i := 0) (oi := ?oid79) (v := ?vd79) ?hod79 (by kernel_rfl) ?hfd79 ?hrd79 ?hQd79 ?hyd79 hHeld ?restd79
        case hod79 => (simp only [List.getElem?_toArray, List.getElem?_cons_succ, List.getElem?_cons_zero]; exact rfl)
        case hfd79 => kernel_rfl
        case hrd79 => kernel_rfl
        case hQd79 => exact fun _ _ _ h => h
        case hyd79 =>
          refine Or.inl ⟨by rfl, ?_⟩
          intro V hSV
          go_simp
          (try with_reducible rfl)
        try simp only [Act.put, List.setIfInBounds_toArray, List.set_cons_zero, List.set_cons_succ]
        refine wpAnyH_take (i := 1) (oi := ?oid80) (v := ?vd80) ?hod80 (by kernel_rfl) ?hfd80 ?hrd80 ?hQd80 ?hyd80 hHeld ?restd80
        case hod80 => (simp only [List.getElem?_toArray, List.getElem?_cons_succ, List.getElem?_cons_zero]; exact rfl)
        case hfd80 => kernel_rfl
        case hrd80 => kernel_rfl
        case hQd80 => exact fun _ _ _ h => h
        case hyd80 =>
          refine Or.inl ⟨by rfl, ?_⟩
          intro V hSV
          go_simp
          (try with_reducible rfl)
        try simp only [Act.put, List.setIfInBounds_toArray, List.set_cons_zero, List.set_cons_succ]
        refine wpAnyH_take (i := 2) (oi := ?oid81) (v := ?vd81) ?hod81 (by kernel_rfl) ?hfd81 ?hrd81 ?hQd81 ?hyd81 hHeld ?restd81
        case hod81 => (simp only [List.getElem?_toArray, List.getElem?_cons_succ, List.getElem?_cons_zero]; exact rfl)
        case hfd81 => kernel_rfl
        case hrd81 => kernel_rfl
        case hQd81 => exact fun _ _ _ h => h
        case hyd81 =>
          refine Or.inl ⟨by rfl, ?_⟩
          intro V hSV
          go_simp
          (try with_reducible rfl)
        try simp only [Act.put, List.setIfInBounds_toArray, List.set_cons_zero, List.set_cons_succ]
        refine wpAnyH_take (i := 3) (oi := ?oid82) (v := .bool false) ?hod82 (by kernel_rfl) ?hfd82 ?hrd82 ?hQd82 ?hyd82 hHeld ?restd82
        case hod82 => (simp only [List.getElem?_toArray, List.getElem?_cons_succ, List.getElem?_cons_zero]; exact rfl)
        case hfd82 => kernel_rfl
        case hrd82 => kernel_rfl
        case hQd82 => exact fun _ _ _ h => h
        case hyd82 =>
          refine Or.inl ⟨by rfl, ?_⟩
          intro V hSV
          have q2 := HT.out.readT hSV 2 rfl
          go_simp
          (try with_reducible rfl)
        try simp only [Act.put, List.setIfInBounds_toArray, List.set_cons_zero, List.set_cons_succ]
        refine wpAnyH_take (i := 4) (oi := ?oid83) (v := .bool false) ?hod83 (by kernel_rfl) ?hfd83 ?hrd83 ?hQd83 ?hyd83 hHeld ?restd83
        case hod83 => (simp only [List.getElem?_toArray, List.getElem?_cons_succ, List.getElem?_cons_zero]; exact rfl)
        case hfd83 => kernel_rfl
        case hrd83 => kernel_rfl
        case hQd83 => exact fun _ _ _ h => h
        case hyd83 =>
          refine Or.inl ⟨by rfl, ?_⟩
          intro V hSV
          go_simp
          (try with_reducible rfl)
        try simp only [Act.put, List.setIfInBounds_toArray, List.set_cons_zero, List.set_cons_succ]
        refine wpAnyH_take (i := 5) (oi := ?oid84) (v := ?vd84) ?hod84 (by kernel_rfl) ?hfd84 ?hrd84 ?hQd84 ?hyd84 hHeld ?restd84
        case hod84 => (simp only [List.getElem?_toArray, List.getElem?_cons_succ, List.getElem?_cons_zero]; exact rfl)
        case hfd84 => kernel_rfl
        case hrd84 => kernel_rfl
        case hQd84 => exact fun _ _ _ h => h
        case hyd84 =>
          refine Or.inl ⟨by rfl, ?_⟩
          intro V hSV
          go_simp
          (try with_reducible rfl)
        try simp only [Act.put, List.setIfInBounds_toArray, List.set_cons_zero, List.set_cons_succ]
        refine wpAnyH_take (i := 6) (oi := ?oid85) (v := ?vd85) ?hod85 (by kernel_rfl) ?hfd85 ?hrd85 ?hQd85 ?hyd85 hHeld ?restd85
        case hod85 => (simp only [List.getElem?_toArray, List.getElem?_cons_succ, List.getElem?_cons_zero]; exact rfl)
        case hfd85 => kernel_rfl
        case hrd85 => kernel_rfl
        case hQd85 => exact fun _ _ _ h => h
        case hyd85 =>
          refine Or.inl ⟨by rfl, ?_⟩
          intro V hSV
          go_simp
          (try with_reducible rfl)
        try simp only [Act.put, List.setIfInBounds_toArray, List.set_cons_zero, List.set_cons_succ]
        refine wpAnyH_take (i := 7) (oi := ?oid86) (v := ?vd86) ?hod86 (by kernel_rfl) ?hfd86 ?hrd86 ?hQd86 ?hyd86 hHeld ?restd86
        case hod86 => (simp only [List.getElem?_toArray, List.getElem?_cons_succ, List.getElem?_cons_zero]; exact rfl)
        case hfd86 => kernel_rfl
        case hrd86 => kernel_rfl
        case hQd86 => exact fun _ _ _ h => h
        case hyd86 =>
          refine Or.inl ⟨by rfl, ?_⟩
          intro V hSV
          go_simp
          (try with_reducible rfl)
        try simp only [Act.put, List.setIfInBounds_toArray, List.set_cons_zero, List.set_cons_succ]
        refine wpAnyH_take (i := 8) (oi := ?oid87) (v := ?vd87) ?hod87 (by kernel_rfl) ?hfd87 ?hrd87 ?hQd87 ?hyd87 hHeld ?restd87
        case hod87 => (simp only [List.getElem?_toArray, List.getElem?_cons_succ, List.getElem?_cons_zero]; exact rfl)
        case hfd87 => kernel_rfl
        case hrd87 => kernel_rfl
        case hQd87 => exact fun _ _ _ h => h
        case hyd87 =>
          refine Or.inl ⟨by rfl, ?_⟩
          intro V hSV
          have q1 := HT.out.readT hSV 1 rfl
          go_simp
          (try with_reducible rfl)
        try simp only [Act.put, List.setIfInBounds_toArray, List.set_cons_zero, List.set_cons_succ]
        refine wpAnyH_take (i := 9) (oi := ?oid88) (v := ?vd88) ?hod88 (by kernel_rfl) ?hfd88 ?hrd88 ?hQd88 ?hyd88 hHeld ?restd88
        case hod88 => (simp only [List.getElem?_toArray, List.getElem?_cons_succ, List.getElem?_cons_zero]; exact rfl)
        case hfd88 => kernel_rfl
        case hrd88 => kernel_rfl
        case hQd88 => exact fun _ _ _ h => h
        case hyd88 =>
          refine Or.inl ⟨by rfl, ?_⟩
          intro V hSV
          go_simp
          (try with_reducible rfl)
        try simp only [Act.put, List.setIfInBounds_toArray, List.set_cons_zero, List.set_cons_succ]
        refine wpAnyH_take (i := 10) (oi := ?oid89) (v := ?vd89) ?hod89 (by kernel_rfl) ?hfd89 ?hrd89 ?hQd89 ?hyd89 hHeld ?restd89
        case hod89 => (simp only [List.getElem?_toArray, List.getElem?_cons_succ, List.getElem?_cons_zero]; exact rfl)
        case hfd89 => kernel_rfl
        case hrd89 => kernel_rfl
        case hQd89 => exact fun _ _ _ h => h
        case hyd89 =>
          refine Or.inl ⟨by rfl, ?_⟩
          intro V hSV
          go_simp
          (try with_reducible rfl)
        try simp only [Act.put, List.setIfInBounds_toArray, List.set_cons_zero, List.set_cons_succ]
        refine wpAnyH_take (i := 11) (oi := ?oid90) (v := ?vd90) ?hod90 (by kernel_rfl) ?hfd90 ?hrd90 ?hQd90 ?hyd90 hHeld ?restd90
        case hod90 => (simp only [List.getElem?_toArray, List.getElem?_cons_succ, List.getElem?_cons_zero]; exact rfl)
        case hfd90 => kernel_rfl
        case hrd90 => kernel_rfl
        case hQd90 => exact fun _ _ _ h => h
        case hyd90 =>
          refine Or.inl ⟨by rfl, ?_⟩
          intro V hSV
          go_simp
          (try with_reducible rfl)
        try simp only [Act.put, List.setIfInBounds_toArray, List.set_cons_zero, List.set_cons_succ]
        refine wpAnyH_take (i := 12) (oi := ?oid91) (v := ?vd91) ?hod91 (by kernel_rfl) ?hfd91 ?hrd91 ?hQd91 ?hyd91 hHeld ?restd91
        case hod91 => (simp only [List.getElem?_toArray, List.getElem?_cons_succ, List.getElem?_cons_zero]; exact rfl)
        case hfd91 => kernel_rfl
        case hrd91 => kernel_rfl
        case hQd91 => exact fun _ _ _ h => h
        case hyd91 =>
          refine Or.inl ⟨by rfl, ?_⟩
          intro V hSV
          have q0 := HT.out.readT hSV 0 rfl
          go_simp
          (try with_reducible rfl)
        try simp only [Act.put, List.setIfInBounds_toArray, List.set_cons_zero, List.set_cons_succ]
        refine wpAnyH_take (i := 13) (oi := ?oid92) (v := ?vd92) ?hod92 (by kernel_rfl) ?hfd92 ?hrd92 ?hQd92 ?hyd92 hHeld ?restd92
        case hod92 => (simp only [List.getElem?_toArray, List.getElem?_cons_succ, List.getElem?_cons_zero]; exact rfl)
        case hfd92 => kernel_rfl
        case hrd92 => kernel_rfl
        case hQd92 => exact fun _ _ _ h => h
        case hyd92 =>
          refine Or.inl ⟨by rfl, ?_⟩
          intro V hSV
          go_simp
          (try with_reducible rfl)
        try simp only [Act.put, List.setIfInBounds_toArray, List.set_cons_zero, List.set_cons_succ]
        refine wpAnyH_take (i := 14) (oi := ?oid93) (v := .bool false) ?hod93 (by kernel_rfl) ?hfd93 ?hrd93 ?hQd93 ?hyd93 hHeld ?restd93
        case hod93 => (simp only [List.getElem?_toArray, List.getElem?_cons_succ, List.getElem?_cons_zero]; exact rfl)
        case hfd93 => kernel_rfl
        case hrd93 => kernel_rfl
        case hQd93 => exact fun _ _ _ h => h
        case hyd93 =>
          refine Or.inl ⟨by rfl, ?_⟩
          intro V hSV
          go_simp
          (try with_reducible rfl)
        try simp only [Act.put, List.setIfInBounds_toArray, List.set_cons_zero, List.set_cons_succ]
        refine wpAnyH_take (i := 15) (oi := ?oid94) (v := .bool false) ?hod94 (by kernel_rfl) ?hfd94 ?hrd94 ?hQd94 ?hyd94 hHeld ?restd94
        case hod94 => (simp only [List.getElem?_toArray, List.getElem?_cons_succ, List.getElem?_cons_zero]; exact rfl)
        case hfd94 => kernel_rfl
        case hrd94 => kernel_rfl
        case hQd94 => exact fun _ _ _ h => h
        case hyd94 =>
          refine Or.inl ⟨by rfl, ?_⟩
          intro V hSV
          go_simp
          (try with_reducible rfl)
        try simp only [Act.put, List.setIfInBounds_toArray, List.set_cons_zero, List.set_cons_succ]
        refine wpAnyH_take (i := 16) (oi := ?oid95) (v := .bool false) ?hod95 (by kernel_rfl) ?hfd95 ?hrd95 ?hQd95 ?hyd95 hHeld ?restd95
        case hod95 => (simp only [List.getElem?_toArray, List.getElem?_cons_succ, List.getElem?_cons_zero]; exact rfl)
        case hfd95 => kernel_rfl
        case hrd95 => kernel_rfl
        case hQd95 => exact fun _ _ _ h => h
        case hyd95 =>
          refine Or.inl ⟨by rfl, ?_⟩
          intro V hSV
          go_simp
          (try with_reducible rfl)
        try simp only [Act.put, List.setIfInBounds_toArray, List.set_cons_zero, List.set_cons_succ]
        refine wpAnyH_take (i := 17) (oi := ?oid96) (v := ?vd96) ?hod96 (by kernel_rfl) ?hfd96 ?hrd96 ?hQd96 ?hyd96 hHeld ?restd96
        case hod96 => (simp only [List.getElem?_toArray, List.getElem?_cons_succ, List.getElem?_cons_zero]; exact rfl)
        case hfd96 => kernel_rfl
        case hrd96 => kernel_rfl
        case hQd96 => exact fun _ _ _ h => h
        case hyd96 =>
          refine Or.inl ⟨by rfl, ?_⟩
          intro V hSV
          go_simp
          (try with_reducible rfl)
        try simp only [Act.put, List.setIfInBounds_toArray, List.set_cons_zero, List.set_cons_succ]
        refine wpAnyH_take (i := 18) (oi := ?oid97) (v := ?vd97) ?hod97 (by kernel_rfl) ?hfd97 ?hrd97 ?hQd97 ?hyd97 hHeld ?restd97
        case hod97 => (simp only [List.getElem?_toArray, List.getElem?_cons_succ, List.getElem?_cons_zero]; exact rfl)
        case hfd97 => kernel_rfl
        case hrd97 => kernel_rfl
        case hQd97 => exact fun _ _ _ h => h
        case hyd97 =>
          refine Or.inl ⟨by rfl, ?_⟩
          intro V hSV
          go_simp
          (try with_reducible rfl)
        try simp only [Act.put, List.setIfInBounds_toArray, List.set_cons_zero, List.set_cons_succ]
        refine wpAnyH_take (i := 19) (oi := ?oid98) (v := ?vd98) ?hod98 (by kernel_rfl) ?hfd98 ?hrd98 ?hQd98 ?hyd98 hHeld ?restd98
        case hod98 => (simp only [List.getElem?_toArray, List.getElem?_cons_succ, List.getElem?_cons_zero]; exact rfl)
        case hfd98 => kernel_rfl
        case hrd98 => kernel_rfl
        case hQd98 => exact fun _ _ _ h => h
        case hyd98 =>
          refine Or.inl ⟨by rfl, ?_⟩
          intro V hSV
          go_simp
          (try with_reducible rfl)
        try simp only [Act.put, List.setIfInBounds_toArray, List.set_cons_zero, List.set_cons_succ]
        refine wpAnyH_take (i := 20) (oi := ?oid99) (v := ?vd99) ?hod99 (by kernel_rfl) ?hfd99 ?hrd99 ?hQd99 ?hyd99 hHeld ?restd99
        case hod99 => (simp only [List.getElem?_toArray, List.getElem?_cons_succ, List.getElem?_cons_zero]; exact rfl)
        case hfd99 => kernel_rfl
        case hrd99 => kernel_rfl
        case hQd99 => exact fun _ _ _ h => h
        case hyd99 =>
          refine Or.inl ⟨by rfl, ?_⟩
          intro V hSV
          have q0 := HT.out.readT hSV 0 rfl
          go_simp
          (try with_reducible rfl)
        try simp only [Act.put, List.setIfInBounds_toArray, List.set_cons_zero, List.set_cons_succ]
        refine wpAnyH_take (i := 21) (oi := ?oid100) (v := ?vd100) ?hod100 (by kernel_rfl) ?hfd100 ?hrd100 ?hQd100 ?hyd100 hHeld ?restd100
        case hod100 => (simp only [List.getElem?_toArray, List.getElem?_cons_succ, List.getElem?_cons_zero]; exact rfl)
        case hfd100 => kernel_rfl
        case hrd100 => kernel_rfl
        case hQd100 => exact fun _ _ _ h => h
        case hyd100 =>
          refine Or.inl ⟨by rfl, ?_⟩
          intro V hSV
          go_simp
          (try with_reducible rfl)
        try simp only [Act.put, List.setIfInBounds_toArray, List.set_cons_zero, List.set_cons_succ]
        refine wpAnyH_take (i := 22) (oi := ?oid101) (v := ?vd101) ?hod101 (by kernel_rfl) ?hfd101 ?hrd101 ?hQd101 ?hyd101 hHeld ?restd101
        case hod101 => (simp only [List.getElem?_toArray, List.getElem?_cons_succ, List.getElem?_cons_zero]; exact rfl)
        case hfd101 => kernel_rfl
        case hrd101 => kernel_rfl
        case hQd101 => exact fun _ _ _ h => h
        case hyd101 =>
          refine Or.inl ⟨by rfl, ?_⟩
          intro V hSV
          go_simp
          (try with_reducible rfl)
        try simp only [Act.put, List.setIfInBounds_toArray, List.set_cons_zero, List.set_cons_succ]
        refine wpAnyH_take (i := 23) (oi := ?oid102) (v := ?vd102) ?hod102 (by kernel_rfl) ?hfd102 ?hrd102 ?hQd102 ?hyd102 hHeld ?restd102
        case hod102 => (simp only [List.getElem?_toArray, List.getElem?_cons_succ, List.getElem?_cons_zero]; exact rfl)
        case hfd102 => kernel_rfl
        case hrd102 => kernel_rfl
        case hQd102 => exact fun _ _ _ h => h
        case hyd102 =>
          refine Or.inl ⟨by rfl, ?_⟩
          intro V hSV
          go_simp
          (try with_reducible rfl)
        try simp only [Act.put, List.setIfInBounds_toArray, List.set_cons_zero, List.set_cons_succ]
        refine wpAnyH_take (i := 24) (oi := ?oid103) (v := ?vd103) ?hod103 (by kernel_rfl) ?hfd103 ?hrd103 ?hQd103 ?hyd103 hHeld ?restd103
        case hod103 => (simp only [List.getElem?_toArray, List.getElem?_cons_succ, List.getElem?_cons_zero]; exact rfl)
        case hfd103 => kernel_rfl
        case hrd103 => kernel_rfl
        case hQd103 => exact fun _ _ _ h => h
        case hyd103 =>
          refine Or.inl ⟨by rfl, ?_⟩
          intro V hSV
          have q1 := HT.out.readT hSV 1 rfl
          go_simp
          (try with_reducible rfl)
        try simp only [Act.put, List.setIfInBounds_toArray, List.set_cons_zero, List.set_cons_succ]
        refine wpAnyH_take (i := 25) (oi := ?oid104) (v := ?vd104) ?hod104 (by kernel_rfl) ?hfd104 ?hrd104 ?hQd104 ?hyd104 hHeld ?restd104
        case hod104 => (simp only [List.getElem?_toArray, List.getElem?_cons_succ, List.getElem?_cons_zero]; exact rfl)
        case hfd104 => kernel_rfl
        case hrd104 => kernel_rfl
        case hQd104 => exact fun _ _ _ h => h
        case hyd104 =>
          refine Or.inl ⟨by rfl, ?_⟩
          intro V hSV
          go_simp
          (try with_reducible rfl)
        try simp only [Act.put, List.setIfInBounds_toArray, List.set_cons_zero, List.set_cons_succ]
        refine wpAnyH_take (i := 26) (oi := ?oid105) (v := ?vd105) ?hod105 (by kernel_rfl) ?hfd105 ?hrd105 ?hQd105 ?hyd105 hHeld ?restd105
        case hod105 => (simp only [List.getElem?_toArray, List.getElem?_cons_succ, List.getElem?_cons_zero]; exact rfl)
        case hfd105 => kernel_rfl
        case hrd105 => kernel_rfl
        case hQd105 => exact fun _ _ _ h => h
        case hyd105 =>
          refine Or.inl ⟨by rfl, ?_⟩
          intro V hSV
          have q := (Below.cell (p := ⟨b, o + k, none⟩) hSV hbg).trans HCX.out
          go_simp
          (try with_reducible rfl)
        try simp only [Act.put, List.setIfInBounds_toArray, List.set_cons_zero, List.set_cons_succ]
        refine wpAnyH_take (i := 27) (oi := ?oid106) (v := .int .i64 (x.toNat : Int)) ?hod106 (by kernel_rfl) ?hfd106 ?hrd106 ?hQd106 ?hyd106 hHeld ?restd106
        case hod106 => (simp only [List.getElem?_toArray, List.getElem?_cons_succ, List.getElem?_cons_zero]; exact rfl)
        case hfd106 => kernel_rfl
        case hrd106 => kernel_rfl
        case hQd106 => exact fun _ _ _ h => h
        case hyd106 =>
          refine Or.inl ⟨by rfl, ?_⟩
          intro V hSV
          go_simp
          (try with_reducible rfl)
        try simp only [Act.put, List.setIfInBounds_toArray, List.set_cons_zero, List.set_cons_succ]
        refine wpAnyH_take (i := 28) (oi := ?oid107) (v := ?vd107) ?hod107 (by kernel_rfl) ?hfd107 ?hrd107 ?hQd107 ?hyd107 hHeld ?restd107
        case hod107 => (simp only [List.getElem?_toArray, List.getElem?_cons_succ, List.getElem?_cons_zero]; exact rfl)
        case hfd107 => kernel_rfl
        case hrd107 => kernel_rfl
        case hQd107 => exact fun _ _ _ h => h
        case hyd107 =>
          refine Or.inl ⟨by rfl, ?_⟩
          intro V hSV
          go_simp
          (try with_reducible rfl)
        try simp only [Act.put, List.setIfInBounds_toArray, List.set_cons_zero, List.set_cons_succ]
        refine wpAnyH_take (i := 29) (oi := ?oid108) (v := .bool true) ?hod108 (by kernel_rfl) ?hfd108 ?hrd108 ?hQd108 ?hyd108 hHeld ?restd108
        case hod108 => (simp only [List.getElem?_toArray, List.getElem?_cons_succ, List.getElem?_cons_zero]; exact rfl)
        case hfd108 => kernel_rfl
        case hrd108 => kernel_rfl
        case hQd108 => exact fun _ _ _ h => h
        case hyd108 =>
          refine Or.inl ⟨by rfl, ?_⟩
          intro V hSV
          go_simp
          (try with_reducible rfl)
        try simp only [Act.put, List.setIfInBounds_toArray, List.set_cons_zero, List.set_cons_succ]
        refine wpAnyH_take (i := 30) (oi := ?oid109) (v := .bool true) ?hod109 (by kernel_rfl) ?hfd109 ?hrd109 ?hQd109 ?hyd109 hHeld ?restd109
        case hod109 => (simp only [List.getElem?_toArray, List.getElem?_cons_succ, List.getElem?_cons_zero]; exact rfl)
        case hfd109 => kernel_rfl
        case hrd109 => kernel_rfl
        case hQd109 => exact fun _ _ _ h => h
        case hyd109 =>
          refine Or.inl ⟨by rfl, ?_⟩
          intro V hSV
          go_simp
          (try with_reducible rfl)
        try simp only [Act.put, List.setIfInBounds_toArray, List.set_cons_zero, List.set_cons_succ]
        refine wpAnyH_done (by kernel_rfl) ?_ _
        obtain ⟨V, hV, hv⟩ : ∃ V, V = _ ∧ Below w.heap.size w V := ⟨_, rfl, hHeld⟩
        rw [← hV]
        clear hV
        have HT := Lib.hid (HT.out.later hv)
        have hbg := HT.out
        have t0 := hbg.readT (Below.refl _ _) 0 rfl
        have t1 := hbg.readT (Below.refl _ _) 1 rfl
        have t2 := hbg.readT (Below.refl _ _) 2 rfl
        have tf1 := hbg.frozen 1
        have tf2 := hbg.frozen 2
        have HV := Lib.hid hv
        clear hbg hv hHeld
        repeat (first | go_skip | go_guarded | go_step)
        go_ret
        refine ⟨0, k, true, rfl, HT.out.set_ 2 (.bool true), hk, (Turn.ofBelow HV.out).trans (tkTurn _ _ _ _), ?_⟩
        show After (rByte most (bs.drop k)) bs k true 0 0
        rw [HDR.out]
        simp only [rByte]
        rw [if_neg hle]
        exact ⟨rfl, rfl⟩
    · have d0 : decide (n ≤ k) = true := by simp; omega
      have d1 : decide ((n : Int) ≤ (k : Int)) = true := by simp; omega
      refine wp_region_held_drew (S := fun V => Below w.heap.size w V) (by kernel_rfl) ?_ (fun hHeld => ?_)
      · exact (Below.refl w.heap.size w).drew
      refine wpAnyH_take (i := 0) (oi := ?oid48) (v := ?vd48) ?hod48 (by kernel_rfl) ?hfd48 ?hrd48 ?hQd48 ?hyd48 hHeld ?restd48
      case hod48 => (simp only [List.getElem?_toArray, List.getElem?_cons_succ, List.getElem?_cons_zero]; exact rfl)
      case hfd48 => kernel_rfl
      case hrd48 => kernel_rfl
      case hQd48 => exact fun _ _ _ h => h
      case hyd48 =>
        refine Or.inl ⟨by rfl, ?_⟩
        intro V hSV
        go_simp
        (try with_reducible rfl)
      try simp only [Act.put, List.setIfInBounds_toArray, List.set_cons_zero, List.set_cons_succ]
      refine wpAnyH_take (i := 1) (oi := ?oid49) (v := ?vd49) ?hod49 (by kernel_rfl) ?hfd49 ?hrd49 ?hQd49 ?hyd49 hHeld ?restd49
      case hod49 => (simp only [List.getElem?_toArray, List.getElem?_cons_succ, List.getElem?_cons_zero]; exact rfl)
      case hfd49 => kernel_rfl
      case hrd49 => kernel_rfl
      case hQd49 => exact fun _ _ _ h => h
      case hyd49 =>
        refine Or.inl ⟨by rfl, ?_⟩
        intro V hSV
        go_simp
        (try with_reducible rfl)
      try simp only [Act.put, List.setIfInBounds_toArray, List.set_cons_zero, List.set_cons_succ]
      refine wpAnyH_take (i := 2) (oi := ?oid50) (v := ?vd50) ?hod50 (by kernel_rfl) ?hfd50 ?hrd50 ?hQd50 ?hyd50 hHeld ?restd50
      case hod50 => (simp only [List.getElem?_toArray, List.getElem?_cons_succ, List.getElem?_cons_zero]; exact rfl)
      case hfd50 => kernel_rfl
      case hrd50 => kernel_rfl
      case hQd50 => exact fun _ _ _ h => h
      case hyd50 =>
        refine Or.inl ⟨by rfl, ?_⟩
        intro V hSV
        go_simp
        (try with_reducible rfl)
      try simp only [Act.put, List.setIfInBounds_toArray, List.set_cons_zero, List.set_cons_succ]
      refine wpAnyH_take (i := 3) (oi := ?oid51) (v := .bool false) ?hod51 (by kernel_rfl) ?hfd51 ?hrd51 ?hQd51 ?hyd51 hHeld ?restd51
      case hod51 => (simp only [List.getElem?_toArray, List.getElem?_cons_succ, List.getElem?_cons_zero]; exact rfl)
      case hfd51 => kernel_rfl
      case hrd51 => kernel_rfl
      case hQd51 => exact fun _ _ _ h => h
      case hyd51 =>
        refine Or.inl ⟨by rfl, ?_⟩
        intro V hSV
        have q2 := HT.out.readT hSV 2 rfl
        go_simp
        (try with_reducible rfl)
      try simp only [Act.put, List.setIfInBounds_toArray, List.set_cons_zero, List.set_cons_succ]
      refine wpAnyH_take (i := 4) (oi := ?oid52) (v := .bool false) ?hod52 (by kernel_rfl) ?hfd52 ?hrd52 ?hQd52 ?hyd52 hHeld ?restd52
      case hod52 => (simp only [List.getElem?_toArray, List.getElem?_cons_succ, List.getElem?_cons_zero]; exact rfl)
      case hfd52 => kernel_rfl
      case hrd52 => kernel_rfl
      case hQd52 => exact fun _ _ _ h => h
      case hyd52 =>
        refine Or.inl ⟨by rfl, ?_⟩
        intro V hSV
        go_simp
        (try with_reducible rfl)
      try simp only [Act.put, List.setIfInBounds_toArray, List.set_cons_zero, List.set_cons_succ]
      refine wpAnyH_take (i := 5) (oi := ?oid53) (v := ?vd53) ?hod53 (by kernel_rfl) ?hfd53 ?hrd53 ?hQd53 ?hyd53 hHeld ?restd53
      case hod53 => (simp only [List.getElem?_toArray, List.getElem?_cons_succ, List.getElem?_cons_zero]; exact rfl)
      case hfd53 => kernel_rfl
      case hrd53 => kernel_rfl
      case hQd53 => exact fun _ _ _ h => h
      case hyd53 =>
        refine Or.inl ⟨by rfl, ?_⟩
        intro V hSV
        go_simp
        (try with_reducible rfl)
      try simp only [Act.put, List.setIfInBounds_toArray, List.set_cons_zero, List.set_cons_succ]
      refine wpAnyH_take (i := 6) (oi := ?oid54) (v := ?vd54) ?hod54 (by kernel_rfl) ?hfd54 ?hrd54 ?hQd54 ?hyd54 hHeld ?restd54
      case hod54 => (simp only [List.getElem?_toArray, List.getElem?_cons_succ, List.getElem?_cons_zero]; exact rfl)
      case hfd54 => kernel_rfl
      case hrd54 => kernel_rfl
      case hQd54 => exact fun _ _ _ h => h
      case hyd54 =>
        refine Or.inl ⟨by rfl, ?_⟩
        intro V hSV
        go_simp
        (try with_reducible rfl)
      try simp only [Act.put, List.setIfInBounds_toArray, List.set_cons_zero, List.set_cons_succ]
      refine wpAnyH_take (i := 7) (oi := ?oid55) (v := ?vd55) ?hod55 (by kernel_rfl) ?hfd55 ?hrd55 ?hQd55 ?hyd55 hHeld ?restd55
      case hod55 => (simp only [List.getElem?_toArray, List.getElem?_cons_succ, List.getElem?_cons_zero]; exact rfl)
      case hfd55 => kernel_rfl
      case hrd55 => kernel_rfl
      case hQd55 => exact fun _ _ _ h => h
      case hyd55 =>
        refine Or.inl ⟨by rfl, ?_⟩
        intro V hSV
        go_simp
        (try with_reducible rfl)
      try simp only [Act.put, List.setIfInBounds_toArray, List.set_cons_zero, List.set_cons_succ]
      refine wpAnyH_take (i := 8) (oi := ?oid56) (v := ?vd56) ?hod56 (by kernel_rfl) ?hfd56 ?hrd56 ?hQd56 ?hyd56 hHeld ?restd56
      case hod56 => (simp only [List.getElem?_toArray, List.getElem?_cons_succ, List.getElem?_cons_zero]; exact rfl)
      case hfd56 => kernel_rfl
      case hrd56 => kernel_rfl
      case hQd56 => exact fun _ _ _ h => h
      case hyd56 =>
        refine Or.inl ⟨by rfl, ?_⟩
        intro V hSV
        have q1 := HT.out.readT hSV 1 rfl
        go_simp
        (try with_reducible rfl)
      try simp only [Act.put, List.setIfInBounds_toArray, List.set_cons_zero, List.set_cons_succ]
      refine wpAnyH_take (i := 9) (oi := ?oid57) (v := ?vd57) ?hod57 (by kernel_rfl) ?hfd57 ?hrd57 ?hQd57 ?hyd57 hHeld ?restd57
      case hod57 => (simp only [List.getElem?_toArray, List.getElem?_cons_succ, List.getElem?_cons_zero]; exact rfl)
      case hfd57 => kernel_rfl
      case hrd57 => kernel_rfl
      case hQd57 => exact fun _ _ _ h => h
      case hyd57 =>
        refine Or.inl ⟨by rfl, ?_⟩
        intro V hSV
        go_simp
        (try with_reducible rfl)
      try simp only [Act.put, List.setIfInBounds_toArray, List.set_cons_zero, List.set_cons_succ]
      refine wpAnyH_take (i := 10) (oi := ?oid58) (v := ?vd58) ?hod58 (by kernel_rfl) ?hfd58 ?hrd58 ?hQd58 ?hyd58 hHeld ?restd58
      case hod58 => (simp only [List.getElem?_toArray, List.getElem?_cons_succ, List.getElem?_cons_zero]; exact rfl)
      case hfd58 => kernel_rfl
      case hrd58 => kernel_rfl
      case hQd58 => exact fun _ _ _ h => h
      case hyd58 =>
        refine Or.inl ⟨by rfl, ?_⟩
        intro V hSV
        go_simp
        (try with_reducible rfl)
      try simp only [Act.put, List.setIfInBounds_toArray, List.set_cons_zero, List.set_cons_succ]
      refine wpAnyH_take (i := 11) (oi := ?oid59) (v := ?vd59) ?hod59 (by kernel_rfl) ?hfd59 ?hrd59 ?hQd59 ?hyd59 hHeld ?restd59
      case hod59 => (simp only [List.getElem?_toArray, List.getElem?_cons_succ, List.getElem?_cons_zero]; exact rfl)
      case hfd59 => kernel_rfl
      case hrd59 => kernel_rfl
      case hQd59 => exact fun _ _ _ h => h
      case hyd59 =>
        refine Or.inl ⟨by rfl, ?_⟩
        intro V hSV
        go_simp
        (try with_reducible rfl)
      try simp only [Act.put, List.setIfInBounds_toArray, List.set_cons_zero, List.set_cons_succ]
      refine wpAnyH_take (i := 12) (oi := ?oid60) (v := ?vd60) ?hod60 (by kernel_rfl) ?hfd60 ?hrd60 ?hQd60 ?hyd60 hHeld ?restd60
      case hod60 => (simp only [List.getElem?_toArray, List.getElem?_cons_succ, List.getElem?_cons_zero]; exact rfl)
      case hfd60 => kernel_rfl
      case hrd60 => kernel_rfl
      case hQd60 => exact fun _ _ _ h => h
      case hyd60 =>
        refine Or.inl ⟨by rfl, ?_⟩
        intro V hSV
        have q0 := HT.out.readT hSV 0 rfl
        go_simp
        (try with_reducible rfl)
      try simp only [Act.put, List.setIfInBounds_toArray, List.set_cons_zero, List.set_cons_succ]
      refine wpAnyH_take (i := 13) (oi := ?oid61) (v := ?vd61) ?hod61 (by kernel_rfl) ?hfd61 ?hrd61 ?hQd61 ?hyd61 hHeld ?restd61
      case hod61 => (simp only [List.getElem?_toArray, List.getElem?_cons_succ, List.getElem?_cons_zero]; exact rfl)
      case hfd61 => kernel_rfl
      case hrd61 => kernel_rfl
      case hQd61 => exact fun _ _ _ h => h
      case hyd61 =>
        refine Or.inl ⟨by rfl, ?_⟩
        intro V hSV
        go_simp
        (try with_reducible rfl)
      try simp only [Act.put, List.setIfInBounds_toArray, List.set_cons_zero, List.set_cons_succ]
      refine wpAnyH_take (i := 14) (oi := ?oid62) (v := .bool true) ?hod62 (by kernel_rfl) ?hfd62 ?hrd62 ?hQd62 ?hyd62 hHeld ?restd62
      case hod62 => (simp only [List.getElem?_toArray, List.getElem?_cons_succ, List.getElem?_cons_zero]; exact rfl)
      case hfd62 => kernel_rfl
      case hrd62 => kernel_rfl
      case hQd62 => exact fun _ _ _ h => h
      case hyd62 =>
        refine Or.inl ⟨by rfl, ?_⟩
        intro V hSV
        go_simp
        (try with_reducible rfl)
      try simp only [Act.put, List.setIfInBounds_toArray, List.set_cons_zero, List.set_cons_succ]
      refine wpAnyH_take (i := 15) (oi := ?oid63) (v := .bool true) ?hod63 (by kernel_rfl) ?hfd63 ?hrd63 ?hQd63 ?hyd63 hHeld ?restd63
      case hod63 => (simp only [List.getElem?_toArray, List.getElem?_cons_succ, List.getElem?_cons_zero]; exact rfl)
      case hfd63 => kernel_rfl
      case hrd63 => kernel_rfl
      case hQd63 => exact fun _ _ _ h => h
      case hyd63 =>
        refine Or.inl ⟨by rfl, ?_⟩
        intro V hSV
        go_simp
        (try with_reducible rfl)
      try simp only [Act.put, List.setIfInBounds_toArray, List.set_cons_zero, List.set_cons_succ]
      refine wpAnyH_take (i := 16) (oi := ?oid64) (v := .bool true) ?hod64 (by kernel_rfl) ?hfd64 ?hrd64 ?hQd64 ?hyd64 hHeld ?restd64
      case hod64 => (simp only [List.getElem?_toArray, List.getElem?_cons_succ, List.getElem?_cons_zero]; exact rfl)
      case hfd64 => kernel_rfl
      case hrd64 => kernel_rfl
      case hQd64 => exact fun _ _ _ h => h
      case hyd64 =>
        refine Or.inl ⟨by rfl, ?_⟩
        intro V hSV
        go_simp
        (try with_reducible rfl)
      try simp only [Act.put, List.setIfInBounds_toArray, List.set_cons_zero, List.set_cons_succ]
      refine wpAnyH_take (i := 17) (oi := ?oid65) (v := undef) ?hod65 (by kernel_rfl) ?hfd65 ?hrd65 ?hQd65 ?hyd65 hHeld ?restd65
      case hod65 => (simp only [List.getElem?_toArray, List.getElem?_cons_succ, List.getElem?_cons_zero]; exact rfl)
      case hfd65 => kernel_rfl
      case hrd65 => kernel_rfl
      case hQd65 => exact fun _ _ _ h => h
      case hyd65 =>
        exact Or.inr ⟨by rfl, rfl⟩
      try simp only [Act.put, List.setIfInBounds_toArray, List.set_cons_zero, List.set_cons_succ]
      refine wpAnyH_take (i := 18) (oi := ?oid66) (v := undef) ?hod66 (by kernel_rfl) ?hfd66 ?hrd66 ?hQd66 ?hyd66 hHeld ?restd66
      case hod66 => (simp only [List.getElem?_toArray, List.getElem?_cons_succ, List.getElem?_cons_zero]; exact rfl)
      case hfd66 => kernel_rfl
      case hrd66 => kernel_rfl
      case hQd66 => exact fun _ _ _ h => h
      case hyd66 =>
        exact Or.inr ⟨by rfl, rfl⟩
      try simp only [Act.put, List.setIfInBounds_toArray, List.set_cons_zero, List.set_cons_succ]
      refine wpAnyH_take (i := 19) (oi := ?oid67) (v := undef) ?hod67 (by kernel_rfl) ?hfd67 ?hrd67 ?hQd67 ?hyd67 hHeld ?restd67
      case hod67 => (simp only [List.getElem?_toArray, List.getElem?_cons_succ, List.getElem?_cons_zero]; exact rfl)
      case hfd67 => kernel_rfl
      case hrd67 => kernel_rfl
      case hQd67 => exact fun _ _ _ h => h
      case hyd67 =>
        exact Or.inr ⟨by rfl, rfl⟩
      try simp only [Act.put, List.setIfInBounds_toArray, List.set_cons_zero, List.set_cons_succ]
      refine wpAnyH_take (i := 20) (oi := ?oid68) (v := undef) ?hod68 (by kernel_rfl) ?hfd68 ?hrd68 ?hQd68 ?hyd68 hHeld ?restd68
      case hod68 => (simp only [List.getElem?_toArray, List.getElem?_cons_succ, List.getElem?_cons_zero]; exact rfl)
      case hfd68 => kernel_rfl
      case hrd68 => kernel_rfl
      case hQd68 => exact fun _ _ _ h => h
      case hyd68 =>
        exact Or.inr ⟨by rfl, rfl⟩
      try simp only [Act.put, List.setIfInBounds_toArray, List.set_cons_zero, List.set_cons_succ]
      refine wpAnyH_take (i := 21) (oi := ?oid69) (v := undef) ?hod69 (by kernel_rfl) ?hfd69 ?hrd69 ?hQd69 ?hyd69 hHeld ?restd69
      case hod69 => (simp only [List.getElem?_toArray, List.getElem?_cons_succ, List.getElem?_cons_zero]; exact rfl)
      case hfd69 => kernel_rfl
      case hrd69 => kernel_rfl
      case hQd69 => exact fun _ _ _ h => h
      case hyd69 =>
        exact Or.inr ⟨by rfl, rfl⟩
      try simp only [Act.put, List.setIfInBounds_toArray, List.set_cons_zero, List.set_cons_succ]
      refine wpAnyH_take (i := 22) (oi := ?oid70) (v := undef) ?hod70 (by kernel_rfl) ?hfd70 ?hrd70 ?hQd70 ?hyd70 hHeld ?restd70
      case hod70 => (simp only [List.getElem?_toArray, List.getElem?_cons_succ, List.getElem?_cons_zero]; exact rfl)
      case hfd70 => kernel_rfl
      case hrd70 => kernel_rfl
      case hQd70 => exact fun _ _ _ h => h
      case hyd70 =>
        exact Or.inr ⟨by rfl, rfl⟩
      try simp only [Act.put, List.setIfInBounds_toArray, List.set_cons_zero, List.set_cons_succ]
      refine wpAnyH_take (i := 23) (oi := ?oid71) (v := undef) ?hod71 (by kernel_rfl) ?hfd71 ?hrd71 ?hQd71 ?hyd71 hHeld ?restd71
      case hod71 => (simp only [List.getElem?_toArray, List.getElem?_cons_succ, List.getElem?_cons_zero]; exact rfl)
      case hfd71 => kernel_rfl
      case hrd71 => kernel_rfl
      case hQd71 => exact fun _ _ _ h => h
      case hyd71 =>
        exact Or.inr ⟨by rfl, rfl⟩
      try simp only [Act.put, List.setIfInBounds_toArray, List.set_cons_zero, List.set_cons_succ]
      refine wpAnyH_take (i := 24) (oi := ?oid72) (v := undef) ?hod72 (by kernel_rfl) ?hfd72 ?hrd72 ?hQd72 ?hyd72 hHeld ?restd72
      case hod72 => (simp only [List.getElem?_toArray, List.getElem?_cons_succ, List.getElem?_cons_zero]; exact rfl)
      case hfd72 => kernel_rfl
      case hrd72 => kernel_rfl
      case hQd72 => exact fun _ _ _ h => h
      case hyd72 =>
        exact Or.inr ⟨by rfl, rfl⟩
      try simp only [Act.put, List.setIfInBounds_toArray, List.set_cons_zero, List.set_cons_succ]
      refine wpAnyH_take (i := 25) (oi := ?oid73) (v := undef) ?hod73 (by kernel_rfl) ?hfd73 ?hrd73 ?hQd73 ?hyd73 hHeld ?restd73
      case hod73 => (simp only [List.getElem?_toArray, List.getElem?_cons_succ, List.getElem?_cons_zero]; exact rfl)
      case hfd73 => kernel_rfl
      case hrd73 => kernel_rfl
      case hQd73 => exact fun _ _ _ h => h
      case hyd73 =>
        exact Or.inr ⟨by rfl, rfl⟩
      try simp only [Act.put, List.setIfInBounds_toArray, List.set_cons_zero, List.set_cons_succ]
      refine wpAnyH_take (i := 26) (oi := ?oid74) (v := undef) ?hod74 (by kernel_rfl) ?hfd74 ?hrd74 ?hQd74 ?hyd74 hHeld ?restd74
      case hod74 => (simp only [List.getElem?_toArray, List.getElem?_cons_succ, List.getElem?_cons_zero]; exact rfl)
      case hfd74 => kernel_rfl
      case hrd74 => kernel_rfl
      case hQd74 => exact fun _ _ _ h => h
      case hyd74 =>
        exact Or.inr ⟨by rfl, rfl⟩
      try simp only [Act.put, List.setIfInBounds_toArray, List.set_cons_zero, List.set_cons_succ]
      refine wpAnyH_take (i := 27) (oi := ?oid75) (v := undef) ?hod75 (by kernel_rfl) ?hfd75 ?hrd75 ?hQd75 ?hyd75 hHeld ?restd75
      case hod75 => (simp only [List.getElem?_toArray, List.getElem?_cons_succ, List.getElem?_cons_zero]; exact rfl)
      case hfd75 => kernel_rfl
      case hrd75 => kernel_rfl
      case hQd75 => exact fun _ _ _ h => h
      case hyd75 =>
        exact Or.inr ⟨by rfl, rfl⟩
      try simp only [Act.put, List.setIfInBounds_toArray, List.set_cons_zero, List.set_cons_succ]
      refine wpAnyH_take (i := 28) (oi := ?oid76) (v := undef) ?hod76 (by kernel_rfl) ?hfd76 ?hrd76 ?hQd76 ?hyd76 hHeld ?restd76
      case hod76 => (simp only [List.getElem?_toArray, List.getElem?_cons_succ, List.getElem?_cons_zero]; exact rfl)
      case hfd76 => kernel_rfl
      case hrd76 => kernel_rfl
      case hQd76 => exact fun _ _ _ h => h
      case hyd76 =>
        exact Or.inr ⟨by rfl, rfl⟩
      try simp only [Act.put, List.setIfInBounds_toArray, List.set_cons_zero, List.set_cons_succ]
      refine wpAnyH_take (i := 29) (oi := ?oid77) (v := undef) ?hod77 (by kernel_rfl) ?hfd77 ?hrd77 ?hQd77 ?hyd77 hHeld ?restd77
      case hod77 => (simp only [List.getElem?_toArray, List.getElem?_cons_succ, List.getElem?_cons_zero]; exact rfl)
      case hfd77 => kernel_rfl
      case hrd77 => kernel_rfl
      case hQd77 => exact fun _ _ _ h => h
      case hyd77 =>
        exact Or.inr ⟨by rfl, rfl⟩
      try simp only [Act.put, List.setIfInBounds_toArray, List.set_cons_zero, List.set_cons_succ]
      refine wpAnyH_take (i := 30) (oi := ?oid78) (v := .bool true) ?hod78 (by kernel_rfl) ?hfd78 ?hrd78 ?hQd78 ?hyd78 hHeld ?restd78
      case hod78 => (simp only [List.getElem?_toArray, List.getElem?_cons_succ, List.getElem?_cons_zero]; exact rfl)
      case hfd78 => kernel_rfl
      case hrd78 => kernel_rfl
      case hQd78 => exact fun _ _ _ h => h
      case hyd78 =>
        refine Or.inl ⟨by rfl, ?_⟩
        intro V hSV
        go_simp
        (try with_reducible rfl)
      try simp only [Act.put, List.setIfInBounds_toArray, List.set_cons_zero, List.set_cons_succ]
      refine wpAnyH_done (by kernel_rfl) ?_ _
      obtain ⟨V, hV, hv⟩ : ∃ V, V = _ ∧ Below w.heap.size w V := ⟨_, rfl, hHeld⟩
      rw [← hV]
      clear hV
      have HT := Lib.hid (HT.out.later hv)
      have hbg := HT.out
      have t0 := hbg.readT (Below.refl _ _) 0 rfl
      have t1 := hbg.readT (Below.refl _ _) 1 rfl
      have t2 := hbg.readT (Below.refl _ _) 2 rfl
      have tf1 := hbg.frozen 1
      have tf2 := hbg.frozen 2
      have HV := Lib.hid hv
      clear hbg hv hHeld
      repeat (first | go_skip | go_guarded | go_step)
      go_ret
      refine ⟨0, k, true, rfl, HT.out.set_ 2 (.bool true), hk, (Turn.ofBelow HV.out).trans (tkTurn _ _ _ _), ?_⟩
      show After (rByte most (bs.drop k)) bs k true 0 0
      rw [List.drop_of_length_le (by rw [HL.out]; omega)]
      exact ⟨rfl, rfl⟩

theorem After.map {α β : Type} {p : Rdr α} {o : Option (List UInt8)} {bs : List UInt8} {k : Nat} {bad : Bool} {v z : α} (f : α → β) (h : After (o.bind p) bs k bad v z) : After (o.bind (rMap p f)) bs k bad (f v) (f z) := by
  cases o with
  | none => exact ⟨h.1, congrArg f h.2⟩
  | some l =>
    have h : After (p l) bs k bad v z := h
    show After ((p l).map fun q => (f q.1, q.2)) bs k bad (f v) (f z)
    cases hp : p l with
    | none => rw [hp] at h; exact ⟨h.1, congrArg f h.2⟩
    | some q => rw [hp] at h; exact ⟨h.1, congrArg f h.2.1, h.2.2⟩
theorem After.most {most : Nat} {o : Option (List UInt8)} {bs : List UInt8} {k : Nat} {bad : Bool} {v : Nat} (h : After (o.bind (rNum most)) bs k bad v 0) : v ≤ most := by
  cases o with
  | none => rw [h.2]; omega
  | some l =>
    have h : After (rNum most l) bs k bad v 0 := h
    unfold rNum at h
    cases h1 : tv l 0 0 with
    | none => rw [h1] at h; rw [h.2]; omega
    | some q =>
      rw [h1] at h
      dsimp only at h
      split at h
      · rename_i hle
        rw [h.2.1]; exact hle
      · rw [h.2]; omega

set_option maxRecDepth 100000 in
set_option maxHeartbeats 4000000 in
theorem rTerm_any (g : Nat) (A : Option Addr) (n c k : Nat) (bad : Bool) (bs : List UInt8) (w : World) (hk0 : Tk w g A n c k bad) (hr : Rd w g 1 A n (bs.map bv)) (hc : n ≤ c) (hm : n ≤ 140737488355328) (hk : k ≤ n) :
    Calls Try.prog 80 #[.pointer (some ⟨g, 0, none⟩)] w fun e w' => ∃ (x : Tm) (k' : Nat) (bad' : Bool), e = .returned (.agg #[.bool x.1, nv x.2]) ∧ Tk w' g A n c k' bad' ∧ k' ≤ n ∧ Turn (fun i => i = g) w w' ∧ After ((rest bs k bad).bind rTerm) bs k' bad' x (false, 0) := by
  have hlt := Bk.lt hk0
  obtain ⟨U, hU, hT, hH, hbU⟩ : ∃ U, U = w.alloc (.cells #[.bool false, .int .u32 0] 54) ∧ Tk U g A n c k bad ∧ Bk U w.heap.size 54 [.bool false, .int .u32 0] ∧ Below w.heap.size w U :=
    ⟨_, rfl, Bk.alloc hk0 _, Bk.new w _ _, (Below.refl _ _).alloc (Nat.le_refl _) _⟩
  have HU := Lib.hid hU
  have HT := Lib.hid hT
  have HH := Lib.hid hH
  have HB := Lib.hid hbU
  have HR := Lib.hid hr
  have HG := Lib.hid hlt
  clear hU hT hH hbU hk0 hr hlt
  go_enter Try.func80, Try.ntmps80
  go_upto_region 1 with (fail)
  rw [← HU.out]
  clear HU
  repeat (first | go_skip | go_guarded | go_step)
  refine (rNumber_any g A n c k 8589934591 bad bs U HT.out (HR.out.below (HB.out.mono (Nat.le_of_lt HG.out))) hc hm hk (by omega)).mono ?_
  rintro e V ⟨v, k', bad', rfl, hT, hk', ht, ha⟩
  have hv := ha.most
  have ha2 := ha.map termOf
  have HA := Lib.hid ha2
  have HT := Lib.hid hT
  have HTU := Lib.hid ht
  have hHV := ht.bk HH.out (fun e => by have := HG.out; omega)
  have h0 := hHV.cell 0
  have h1 := hHV.cell 1
  have hf0 := hHV.frozen 0
  have hf1 := hHV.frozen 1
  have HHV := Lib.hid hHV
  obtain ⟨d2, hd2⟩ : ∃ d, d = v / 2 := ⟨_, rfl⟩
  obtain ⟨m2, hm2⟩ : ∃ d, d = v % 2 := ⟨_, rfl⟩
  have e1 : (v : Int).tmod 2 = (m2 : Int) := by rw [Int.tmod_eq_emod_of_nonneg (by omega), hm2] <;> simp
  have e2 : (v : Int) % 2 = (m2 : Int) := by rw [hm2] <;> simp
  have e3 : (v : Int).tdiv 2 = (d2 : Int) := by rw [Int.tdiv_eq_ediv_of_nonneg (by omega), hd2] <;> simp
  have e4 : (v : Int) / 2 = (d2 : Int) := by rw [hd2] <;> simp
  have e5 : IntKind.u64.wrap (m2 : Int) = (m2 : Int) := by rw [IntKind.wrap_u64] <;> omega
  have e6 : IntKind.u64.wrap (d2 : Int) = (d2 : Int) := by rw [IntKind.wrap_u64] <;> omega
  have e7 : IntKind.u32.wrap (d2 : Int) = (d2 : Int) := by rw [IntKind.wrap_u32] <;> omega
  obtain ⟨bb, hbb⟩ : ∃ b, ((m2 : Int) == 1) = b := ⟨_, rfl⟩
  have hx : termOf v = (bb, UInt32.ofNat d2) := by
    unfold termOf
    rw [← hbb, ← hd2, ← hm2]
    congr 1
    rw [Bool.eq_iff_iff, beq_iff_eq, beq_iff_eq]
    omega
  have HX := Lib.hid hx
  have hnv : nv (UInt32.ofNat d2) = .int .u32 (d2 : Int) := by
    unfold nv
    rw [toNat32 (by omega)]
  have HNV := Lib.hid hnv
  clear hT ht ha ha2 hHV hd2 hm2 hx hnv hv
  dsimp only
  repeat (first | go_skip | go_guarded | go_step)
  refine bodyPost_ret (v := .agg #[.bool bb, .int .u32 (d2 : Int)]) ?_ rfl ⟨(bb, UInt32.ofNat d2), k', bad', ?_, ?_, hk', ?_, ?_⟩
  · have hq := (HHV.out.set_ 0 (.bool bb)).set_ 1 (.int .u32 (d2 : Int))
    have q0 := hq.cell 0
    have q1 := hq.cell 1
    simp only [List.set_cons_zero, List.set_cons_succ, List.getElem?_cons_zero, List.getElem?_cons_succ] at q0 q1
    simp [results, Try.results80, go_sem, q0, q1]
  · rw [HNV.out]
  · exact Bk.far (Bk.far HT.out (show g ≠ w.heap.size by have := HG.out; omega) _) (show g ≠ w.heap.size by have := HG.out; omega) _
  · exact Turn.setCell (Turn.setCell ((Turn.ofBelow HB.out).then_ HTU.out (fun k _ h => h)) (fun h => absurd h (Nat.lt_irrefl _)) _) (fun h => absurd h (Nat.lt_irrefl _)) _
  · have h := HA.out
    rw [HX.out] at h
    exact h
end Go.Proofs.Ytcoafgnbmgndeaa
