/- Layer 6 (wire), the program's reader: a byte, a var, a number, is it so, a term. -/
import Derived.Test.YtcoafgnbmgndeaaWqA
set_option linter.unusedVariables false
set_option linter.unusedSimpArgs false
namespace Go.Proofs.Ytcoafgnbmgndeaa
open Go Go.RowKit

theorem isSize_one (w : World) :
    Calls Try.prog 109 #[.int .i64 1] w fun e w' => e = .returned (.bool true) ∧ w = w' := by
  go_enter Try.func109, Try.ntmps109
  repeat (first | go_skip | go_guarded | go_step)
  go_ret
  exact ⟨rfl, rfl⟩
/-- What one byte at a place is. -/
def tkAns (bs : List UInt8) (t : Int) : Nat × Nat × Nat :=
  if t < 0 ∨ (bs.length : Int) < t then (0, 0, 1) else match bs.drop t.toNat with
    | [] => (0, 0, 5)
    | x :: _ => (x.toNat, t.toNat + 1, 0)

set_option maxRecDepth 100000 in
set_option maxHeartbeats 4000000 in
theorem take1_any (A : Option Addr) (n c B : Nat) (t : Int) (bs : List UInt8) (w : World) (hr : Rd w B 1 A n (bs.map bv)) (hc : n ≤ c) (hm : n ≤ 140737488355328) (v x z : Nat) (hans : tkAns bs t = (v, x, z)) :
    Calls Try.prog 105 #[.slice A n c, .int .i64 t, .int .i64 1] w fun e w' => e = .returned (.tuple #[.int .u64 (v : Int), .int .i64 (x : Int), .int .i64 (z : Int)]) ∧ w = w' := by
  have hl : bs.length = n := by simpa using hr.len1
  have HL := Lib.hid hl
  have HA := Lib.hid hans
  have HR := Lib.hid hr
  clear hl hans hr
  have H := Lib.hid (isSize_one w)
  by_cases hp : t < 0 ∨ (n : Int) < t
  · have H2 := Lib.hid (isPlace_no A n c t w hp)
    have ha := HA.out
    unfold tkAns at ha
    rw [if_pos (by rw [HL.out]; exact hp)] at ha
    simp only [Prod.mk.injEq] at ha
    obtain ⟨rfl, rfl, rfl⟩ := ha
    go_enter Try.func105, Try.ntmps105
    go_wp2_with (first
      | (go_at_call 109; refine H.out.mono ?_; rintro e w1 ⟨rfl, rfl⟩)
      | (go_at_call 108; refine H2.out.mono ?_; rintro e w1 ⟨rfl, rfl⟩))
    go_ret3
    exact ⟨rfl, rfl⟩
  · have H2 := Lib.hid (isPlace_yes A n c t w ⟨by omega, by omega⟩)
    obtain ⟨k, rfl⟩ := Int.eq_ofNat_of_zero_le (show 0 ≤ t by omega)
    have hk : k ≤ n := by omega
    have ha := HA.out
    unfold tkAns at ha
    rw [if_neg (by rw [HL.out]; omega), Int.toNat_natCast] at ha
    by_cases hlt : k < n
    · have hlb : k < bs.length := by rw [HL.out]; exact hlt
      obtain ⟨b, o, rfl, _, hcell⟩ := HR.out.2 (by omega)
      obtain ⟨x8, hx8⟩ : ∃ y, y = bs[k] := ⟨_, rfl⟩
      have hcx : w.cell? ⟨b, o + k, none⟩ = some (.int .u8 (x8.toNat : Int)) := by rw [hx8]; exact hcell k _ (by simp [List.getElem?_eq_getElem hlb, bv])
      rw [List.drop_eq_getElem_cons hlb, ← hx8] at ha
      simp only [Prod.mk.injEq] at ha
      obtain ⟨rfl, rfl, rfl⟩ := ha
      have h8 := u8_lt x8
      have e1 : bits BinOp.or IntKind.u64 0 (x8.toNat : Int) = (x8.toNat : Int) := by simpa using or256 0 x8.toNat (by omega) h8
      have hd : decide ((n : Int) - (k : Int) < 1) = false := by simp; omega
      clear hx8 hcell
      go_enter Try.func105, Try.ntmps105
      go_wp2_with (first
        | (go_at_call 109; refine H.out.mono ?_; rintro e w1 ⟨rfl, rfl⟩)
        | (go_at_call 108; refine H2.out.mono ?_; rintro e w1 ⟨rfl, rfl⟩))
      go_loop [6, 33] (fun a i => ∃ (j : Nat), a = .int .u64 (if j = 0 then 0 else (x8.toNat : Int)) ∧ i = .int .i64 (j : Int) ∧ j ≤ 1) (fun _ i => 1 - (intOf i).toNat)
      case atStart => exact ⟨0, by simp, rfl, by omega⟩
      case round =>
        obtain ⟨j, rfl, rfl, hj⟩ := hrel
        by_cases hjk : j = 0
        · subst hjk
          go_wp2
          exact ⟨⟨1, by simp, by go_num, by omega⟩, by simp [intOf]⟩
        · obtain rfl : j = 1 := by omega
          go_wp2
          go_ret3
          exact ⟨by simp, rfl⟩
    · obtain rfl : k = n := by omega
      rw [List.drop_eq_nil_of_le (by rw [HL.out]; omega)] at ha
      simp only [Prod.mk.injEq] at ha
      obtain ⟨rfl, rfl, rfl⟩ := ha
      have hd : decide ((k : Int) - (k : Int) < 1) = true := by simp
      go_enter Try.func105, Try.ntmps105
      go_wp2_with (first
        | (go_at_call 109; refine H.out.mono ?_; rintro e w1 ⟨rfl, rfl⟩)
        | (go_at_call 108; refine H2.out.mono ?_; rintro e w1 ⟨rfl, rfl⟩))
      go_ret3
      exact ⟨rfl, rfl⟩
theorem tkAns_rByte {bs : List UInt8} {t : Int} {v x z : Nat} (h : tkAns bs t = (v, x, z)) :
    (z = 0 ∧ Got (rByte 255) bs t v x) ∨ (z ≠ 0 ∧ Nope (rByte 255) bs t z) := by
  unfold tkAns at h
  split at h
  · rename_i hp
    simp only [Prod.mk.injEq] at h
    exact .inr ⟨by omega, .inl ⟨hp, by omega⟩⟩
  · rename_i hp
    cases hd : bs.drop t.toNat with
    | nil =>
      rw [hd] at h
      simp only [Prod.mk.injEq] at h
      exact .inr ⟨by omega, .inr ⟨by omega, by omega, by rw [hd]; rfl, by omega⟩⟩
    | cons c l =>
      rw [hd] at h
      simp only [Prod.mk.injEq] at h
      obtain ⟨rfl, rfl, rfl⟩ := h
      have hlen := congrArg List.length hd
      simp only [List.length_drop, List.length_cons] at hlen
      refine .inl ⟨rfl, by omega, by omega, by omega, ?_⟩
      rw [hd]
      have e : bs.drop (t.toNat + 1) = l := by rw [← List.drop_drop, hd]; rfl
      rw [e]
      have := u8_lt c
      unfold rByte
      dsimp only
      rw [if_pos (by omega)]
theorem tvAns_long {bs : List UInt8} {t : Int} {v x z : Nat} (h : tvAns bs t = (v, x, z)) :
    v < 18446744073709551616 ∧ ((z = 0 ∧ Got (rNum 18446744073709551615) bs t v x) ∨ (z ≠ 0 ∧ Nope (rNum 18446744073709551615) bs t z)) := by
  have hbd := tvAns_bd h
  refine ⟨by omega, ?_⟩
  by_cases hp : t < 0 ∨ (bs.length : Int) < t
  · unfold tvAns at h
    rw [if_pos hp] at h
    simp only [Prod.mk.injEq] at h
    exact .inr ⟨by omega, .inl ⟨hp, by omega⟩⟩
  · obtain ⟨k, rfl⟩ := Int.eq_ofNat_of_zero_le (show 0 ≤ t by omega)
    have hfc := tvAns_rNum (most := 18446744073709551615) (show k ≤ bs.length by omega) h
    by_cases hz : z = 0
    · obtain ⟨h1, h2⟩ := hfc.2 hz
      rw [if_pos (by omega)] at h2
      exact .inl ⟨hz, by omega, by omega, h1, by rw [Int.toNat_natCast]; exact h2⟩
    · have h1 := hfc.1 hz
      have h5 : z = 5 := by
        unfold tvAns at h
        rw [if_neg hp] at h
        split at h <;> simp only [Prod.mk.injEq] at h <;> omega
      exact .inr ⟨hz, .inr ⟨by omega, by omega, by rw [Int.toNat_natCast]; exact h1, h5⟩⟩

set_option maxRecDepth 100000 in
set_option maxHeartbeats 4000000 in
theorem long_any (g : Nat) (A : Option Addr) (n c : Nat) (t : Int) (bs : List UInt8) (w : World) (hk0 : Rg w g A n c t 0) (hr : Rd w g 1 A n (bs.map bv)) (hc : n ≤ c) (hm : n ≤ 140737488355328) :
    Calls Try.prog 93 #[.pointer (some ⟨g, 0, none⟩)] w fun e w' => Ends (rNum 18446744073709551615) g A n c bs t (fun v u _ => u = .int .u64 (v : Int)) w e w' := by
  obtain ⟨v, x, z, hans⟩ : ∃ v x z, tvAns bs t = (v, x, z) := ⟨_, _, _, rfl⟩
  have HT := Lib.hid (show Bk w g 113 [.slice A n c, .int .i64 t, .int .i64 0] from hk0)
  have HK := Lib.hid hk0
  have HR := Lib.hid hr
  have HA := Lib.hid hans
  clear hk0 hr hans
  go_enter Try.func93, Try.ntmps93
  repeat (first | go_skip | go_guarded | go_step)
  refine wp_region_held_drew (S := fun V => Below w.heap.size w V) (by kernel_rfl) ?_ (fun hHeld => ?_)
  · exact (Below.refl w.heap.size w).drew
  refine wpAnyH_take (i := 0) (oi := ?oid1) (v := ?vd1) ?hod1 (by kernel_rfl) ?hfd1 ?hrd1 ?hQd1 ?hyd1 hHeld ?restd1
  case hod1 => (simp only [List.getElem?_toArray, List.getElem?_cons_succ, List.getElem?_cons_zero]; exact rfl)
  case hfd1 => kernel_rfl
  case hrd1 => kernel_rfl
  case hQd1 => exact fun _ _ _ h => h
  case hyd1 =>
    refine Or.inl ⟨by rfl, ?_⟩
    intro V hSV
    go_simp
    (try with_reducible rfl)
  try simp only [Act.put, List.setIfInBounds_toArray, List.set_cons_zero, List.set_cons_succ]
  refine wpAnyH_take (i := 1) (oi := ?oid2) (v := ?vd2) ?hod2 (by kernel_rfl) ?hfd2 ?hrd2 ?hQd2 ?hyd2 hHeld ?restd2
  case hod2 => (simp only [List.getElem?_toArray, List.getElem?_cons_succ, List.getElem?_cons_zero]; exact rfl)
  case hfd2 => kernel_rfl
  case hrd2 => kernel_rfl
  case hQd2 => exact fun _ _ _ h => h
  case hyd2 =>
    refine Or.inl ⟨by rfl, ?_⟩
    intro V hSV
    go_simp
    (try with_reducible rfl)
  try simp only [Act.put, List.setIfInBounds_toArray, List.set_cons_zero, List.set_cons_succ]
  refine wpAnyH_take (i := 2) (oi := ?oid3) (v := ?vd3) ?hod3 (by kernel_rfl) ?hfd3 ?hrd3 ?hQd3 ?hyd3 hHeld ?restd3
  case hod3 => (simp only [List.getElem?_toArray, List.getElem?_cons_succ, List.getElem?_cons_zero]; exact rfl)
  case hfd3 => kernel_rfl
  case hrd3 => kernel_rfl
  case hQd3 => exact fun _ _ _ h => h
  case hyd3 =>
    refine Or.inl ⟨by rfl, ?_⟩
    intro V hSV
    go_simp
    (try with_reducible rfl)
  try simp only [Act.put, List.setIfInBounds_toArray, List.set_cons_zero, List.set_cons_succ]
  refine wpAnyH_take (i := 3) (oi := ?oid4) (v := ?vd4) ?hod4 (by kernel_rfl) ?hfd4 ?hrd4 ?hQd4 ?hyd4 hHeld ?restd4
  case hod4 => (simp only [List.getElem?_toArray, List.getElem?_cons_succ, List.getElem?_cons_zero]; exact rfl)
  case hfd4 => kernel_rfl
  case hrd4 => kernel_rfl
  case hQd4 => exact fun _ _ _ h => h
  case hyd4 =>
    refine Or.inl ⟨by rfl, ?_⟩
    intro V hSV
    have q0 := HT.out.readT hSV 0 rfl
    go_simp
    (try with_reducible rfl)
  try simp only [Act.put, List.setIfInBounds_toArray, List.set_cons_zero, List.set_cons_succ]
  refine wpAnyH_take (i := 4) (oi := ?oid5) (v := ?vd5) ?hod5 (by kernel_rfl) ?hfd5 ?hrd5 ?hQd5 ?hyd5 hHeld ?restd5
  case hod5 => (simp only [List.getElem?_toArray, List.getElem?_cons_succ, List.getElem?_cons_zero]; exact rfl)
  case hfd5 => kernel_rfl
  case hrd5 => kernel_rfl
  case hQd5 => exact fun _ _ _ h => h
  case hyd5 =>
    refine Or.inl ⟨by rfl, ?_⟩
    intro V hSV
    go_simp
    (try with_reducible rfl)
  try simp only [Act.put, List.setIfInBounds_toArray, List.set_cons_zero, List.set_cons_succ]
  refine wpAnyH_take (i := 5) (oi := ?oid6) (v := ?vd6) ?hod6 (by kernel_rfl) ?hfd6 ?hrd6 ?hQd6 ?hyd6 hHeld ?restd6
  case hod6 => (simp only [List.getElem?_toArray, List.getElem?_cons_succ, List.getElem?_cons_zero]; exact rfl)
  case hfd6 => kernel_rfl
  case hrd6 => kernel_rfl
  case hQd6 => exact fun _ _ _ h => h
  case hyd6 =>
    refine Or.inl ⟨by rfl, ?_⟩
    intro V hSV
    go_simp
    (try with_reducible rfl)
  try simp only [Act.put, List.setIfInBounds_toArray, List.set_cons_zero, List.set_cons_succ]
  refine wpAnyH_take (i := 6) (oi := ?oid7) (v := ?vd7) ?hod7 (by kernel_rfl) ?hfd7 ?hrd7 ?hQd7 ?hyd7 hHeld ?restd7
  case hod7 => (simp only [List.getElem?_toArray, List.getElem?_cons_succ, List.getElem?_cons_zero]; exact rfl)
  case hfd7 => kernel_rfl
  case hrd7 => kernel_rfl
  case hQd7 => exact fun _ _ _ h => h
  case hyd7 =>
    refine Or.inl ⟨by rfl, ?_⟩
    intro V hSV
    go_simp
    (try with_reducible rfl)
  try simp only [Act.put, List.setIfInBounds_toArray, List.set_cons_zero, List.set_cons_succ]
  refine wpAnyH_take (i := 7) (oi := ?oid8) (v := ?vd8) ?hod8 (by kernel_rfl) ?hfd8 ?hrd8 ?hQd8 ?hyd8 hHeld ?restd8
  case hod8 => (simp only [List.getElem?_toArray, List.getElem?_cons_succ, List.getElem?_cons_zero]; exact rfl)
  case hfd8 => kernel_rfl
  case hrd8 => kernel_rfl
  case hQd8 => exact fun _ _ _ h => h
  case hyd8 =>
    refine Or.inl ⟨by rfl, ?_⟩
    intro V hSV
    have q1 := HT.out.readT hSV 1 rfl
    go_simp
    (try with_reducible rfl)
  try simp only [Act.put, List.setIfInBounds_toArray, List.set_cons_zero, List.set_cons_succ]
  refine wpAnyH_ready (rs := [8]) (by kernel_rfl) (by simp) ?_
  refine AllReadyH.cons (o := ?od9) ?hod9 (fun K hK => ?kd9) ?md9
  case hod9 => (simp only [List.getElem?_toArray, List.getElem?_cons_succ, List.getElem?_cons_zero]; exact rfl)
  case kd9 =>
    go_simp
    refine (takeVar_any A n c _ t bs _ (HR.out.below (Below.mono hHeld (Nat.le_of_lt HT.out.lt))) hc hm v x z HA.out).mono ?_
    rintro e Vd9 ⟨rfl, rfl⟩
    (try dsimp only)
    refine hK.out _ _ ?_ (fun hHeld => ?_)
    · exact hHeld
    clear hK K
    try simp only [Act.put, List.setIfInBounds_toArray, List.set_cons_zero, List.set_cons_succ]
    refine wpAnyH_take (i := 9) (oi := ?oid10) (v := ?vd10) ?hod10 (by kernel_rfl) ?hfd10 ?hrd10 ?hQd10 ?hyd10 hHeld ?restd10
    case hod10 => (simp only [List.getElem?_toArray, List.getElem?_cons_succ, List.getElem?_cons_zero]; exact rfl)
    case hfd10 => kernel_rfl
    case hrd10 => kernel_rfl
    case hQd10 => exact fun _ _ _ h => h
    case hyd10 =>
      refine Or.inl ⟨by rfl, ?_⟩
      intro V hSV
      go_simp
      (try with_reducible rfl)
    try simp only [Act.put, List.setIfInBounds_toArray, List.set_cons_zero, List.set_cons_succ]
    refine wpAnyH_take (i := 10) (oi := ?oid11) (v := ?vd11) ?hod11 (by kernel_rfl) ?hfd11 ?hrd11 ?hQd11 ?hyd11 hHeld ?restd11
    case hod11 => (simp only [List.getElem?_toArray, List.getElem?_cons_succ, List.getElem?_cons_zero]; exact rfl)
    case hfd11 => kernel_rfl
    case hrd11 => kernel_rfl
    case hQd11 => exact fun _ _ _ h => h
    case hyd11 =>
      refine Or.inl ⟨by rfl, ?_⟩
      intro V hSV
      go_simp
      (try with_reducible rfl)
    try simp only [Act.put, List.setIfInBounds_toArray, List.set_cons_zero, List.set_cons_succ]
    refine wpAnyH_take (i := 11) (oi := ?oid12) (v := ?vd12) ?hod12 (by kernel_rfl) ?hfd12 ?hrd12 ?hQd12 ?hyd12 hHeld ?restd12
    case hod12 => (simp only [List.getElem?_toArray, List.getElem?_cons_succ, List.getElem?_cons_zero]; exact rfl)
    case hfd12 => kernel_rfl
    case hrd12 => kernel_rfl
    case hQd12 => exact fun _ _ _ h => h
    case hyd12 =>
      refine Or.inl ⟨by rfl, ?_⟩
      intro V hSV
      go_simp
      (try with_reducible rfl)
    try simp only [Act.put, List.setIfInBounds_toArray, List.set_cons_zero, List.set_cons_succ]
    refine wpAnyH_take (i := 12) (oi := ?oid13) (v := ?vd13) ?hod13 (by kernel_rfl) ?hfd13 ?hrd13 ?hQd13 ?hyd13 hHeld ?restd13
    case hod13 => (simp only [List.getElem?_toArray, List.getElem?_cons_succ, List.getElem?_cons_zero]; exact rfl)
    case hfd13 => kernel_rfl
    case hrd13 => kernel_rfl
    case hQd13 => exact fun _ _ _ h => h
    case hyd13 =>
      refine Or.inl ⟨by rfl, ?_⟩
      intro V hSV
      go_simp
      (try with_reducible rfl)
    try simp only [Act.put, List.setIfInBounds_toArray, List.set_cons_zero, List.set_cons_succ]
    refine wpAnyH_take (i := 13) (oi := ?oid14) (v := ?vd14) ?hod14 (by kernel_rfl) ?hfd14 ?hrd14 ?hQd14 ?hyd14 hHeld ?restd14
    case hod14 => (simp only [List.getElem?_toArray, List.getElem?_cons_succ, List.getElem?_cons_zero]; exact rfl)
    case hfd14 => kernel_rfl
    case hrd14 => kernel_rfl
    case hQd14 => exact fun _ _ _ h => h
    case hyd14 =>
      refine Or.inl ⟨by rfl, ?_⟩
      intro V hSV
      go_simp
      (try with_reducible rfl)
    try simp only [Act.put, List.setIfInBounds_toArray, List.set_cons_zero, List.set_cons_succ]
    refine wpAnyH_take (i := 14) (oi := ?oid15) (v := ?vd15) ?hod15 (by kernel_rfl) ?hfd15 ?hrd15 ?hQd15 ?hyd15 hHeld ?restd15
    case hod15 => (simp only [List.getElem?_toArray, List.getElem?_cons_succ, List.getElem?_cons_zero]; exact rfl)
    case hfd15 => kernel_rfl
    case hrd15 => kernel_rfl
    case hQd15 => exact fun _ _ _ h => h
    case hyd15 =>
      refine Or.inl ⟨by rfl, ?_⟩
      intro V hSV
      go_simp
      (try with_reducible rfl)
    try simp only [Act.put, List.setIfInBounds_toArray, List.set_cons_zero, List.set_cons_succ]
    refine wpAnyH_take (i := 15) (oi := ?oid16) (v := ?vd16) ?hod16 (by kernel_rfl) ?hfd16 ?hrd16 ?hQd16 ?hyd16 hHeld ?restd16
    case hod16 => (simp only [List.getElem?_toArray, List.getElem?_cons_succ, List.getElem?_cons_zero]; exact rfl)
    case hfd16 => kernel_rfl
    case hrd16 => kernel_rfl
    case hQd16 => exact fun _ _ _ h => h
    case hyd16 =>
      refine Or.inl ⟨by rfl, ?_⟩
      intro V hSV
      go_simp
      (try with_reducible rfl)
    try simp only [Act.put, List.setIfInBounds_toArray, List.set_cons_zero, List.set_cons_succ]
    refine wpAnyH_done (by kernel_rfl) ?_ _
    repeat (first | go_skip | go_guarded | go_step)
    refine (past_any g A n c z v (x : Int) t _ (Bk.later HK.out hHeld)).mono ?_
    rintro e w' ⟨ht, h⟩
    have hto := (Turn.ofBelow (G := fun i => i = g) hHeld).trans ht
    rcases h with ⟨rfl, rfl, hg⟩ | ⟨hz, rfl, hg⟩
    · dsimp only
      repeat (first | go_skip | go_guarded | go_step)
      go_ret
      rcases (tvAns_long HA.out).2 with ⟨_, h⟩ | ⟨h, _⟩
      · exact ⟨hto, .inl ⟨v, x, _, rfl, rfl, h, hg⟩⟩
      · exact absurd rfl h
    · rcases (tvAns_long HA.out).2 with ⟨h, _⟩ | ⟨_, h⟩
      · exact absurd h hz
      · exact ⟨rfl, hto, .inr ⟨z, t, rfl, h, hg⟩⟩
  exact AllReadyH.nil

set_option maxRecDepth 100000 in
set_option maxHeartbeats 4000000 in
theorem single_any (g : Nat) (A : Option Addr) (n c : Nat) (t : Int) (bs : List UInt8) (w : World) (hk0 : Rg w g A n c t 0) (hr : Rd w g 1 A n (bs.map bv)) (hc : n ≤ c) (hm : n ≤ 140737488355328) :
    Calls Try.prog 94 #[.pointer (some ⟨g, 0, none⟩)] w fun e w' => Ends (rByte 255) g A n c bs t (fun v u _ => u = .int .u64 (v : Int)) w e w' := by
  obtain ⟨v, x, z, hans⟩ : ∃ v x z, tkAns bs t = (v, x, z) := ⟨_, _, _, rfl⟩
  have HT := Lib.hid (show Bk w g 113 [.slice A n c, .int .i64 t, .int .i64 0] from hk0)
  have HK := Lib.hid hk0
  have HR := Lib.hid hr
  have HA := Lib.hid hans
  clear hk0 hr hans
  go_enter Try.func94, Try.ntmps94
  repeat (first | go_skip | go_guarded | go_step)
  refine wp_region_held_drew (S := fun V => Below w.heap.size w V) (by kernel_rfl) ?_ (fun hHeld => ?_)
  · exact (Below.refl w.heap.size w).drew
  refine wpAnyH_take (i := 0) (oi := ?oid17) (v := ?vd17) ?hod17 (by kernel_rfl) ?hfd17 ?hrd17 ?hQd17 ?hyd17 hHeld ?restd17
  case hod17 => (simp only [List.getElem?_toArray, List.getElem?_cons_succ, List.getElem?_cons_zero]; exact rfl)
  case hfd17 => kernel_rfl
  case hrd17 => kernel_rfl
  case hQd17 => exact fun _ _ _ h => h
  case hyd17 =>
    refine Or.inl ⟨by rfl, ?_⟩
    intro V hSV
    go_simp
    (try with_reducible rfl)
  try simp only [Act.put, List.setIfInBounds_toArray, List.set_cons_zero, List.set_cons_succ]
  refine wpAnyH_take (i := 1) (oi := ?oid18) (v := ?vd18) ?hod18 (by kernel_rfl) ?hfd18 ?hrd18 ?hQd18 ?hyd18 hHeld ?restd18
  case hod18 => (simp only [List.getElem?_toArray, List.getElem?_cons_succ, List.getElem?_cons_zero]; exact rfl)
  case hfd18 => kernel_rfl
  case hrd18 => kernel_rfl
  case hQd18 => exact fun _ _ _ h => h
  case hyd18 =>
    refine Or.inl ⟨by rfl, ?_⟩
    intro V hSV
    go_simp
    (try with_reducible rfl)
  try simp only [Act.put, List.setIfInBounds_toArray, List.set_cons_zero, List.set_cons_succ]
  refine wpAnyH_take (i := 2) (oi := ?oid19) (v := ?vd19) ?hod19 (by kernel_rfl) ?hfd19 ?hrd19 ?hQd19 ?hyd19 hHeld ?restd19
  case hod19 => (simp only [List.getElem?_toArray, List.getElem?_cons_succ, List.getElem?_cons_zero]; exact rfl)
  case hfd19 => kernel_rfl
  case hrd19 => kernel_rfl
  case hQd19 => exact fun _ _ _ h => h
  case hyd19 =>
    refine Or.inl ⟨by rfl, ?_⟩
    intro V hSV
    go_simp
    (try with_reducible rfl)
  try simp only [Act.put, List.setIfInBounds_toArray, List.set_cons_zero, List.set_cons_succ]
  refine wpAnyH_take (i := 3) (oi := ?oid20) (v := ?vd20) ?hod20 (by kernel_rfl) ?hfd20 ?hrd20 ?hQd20 ?hyd20 hHeld ?restd20
  case hod20 => (simp only [List.getElem?_toArray, List.getElem?_cons_succ, List.getElem?_cons_zero]; exact rfl)
  case hfd20 => kernel_rfl
  case hrd20 => kernel_rfl
  case hQd20 => exact fun _ _ _ h => h
  case hyd20 =>
    refine Or.inl ⟨by rfl, ?_⟩
    intro V hSV
    have q0 := HT.out.readT hSV 0 rfl
    go_simp
    (try with_reducible rfl)
  try simp only [Act.put, List.setIfInBounds_toArray, List.set_cons_zero, List.set_cons_succ]
  refine wpAnyH_take (i := 4) (oi := ?oid21) (v := ?vd21) ?hod21 (by kernel_rfl) ?hfd21 ?hrd21 ?hQd21 ?hyd21 hHeld ?restd21
  case hod21 => (simp only [List.getElem?_toArray, List.getElem?_cons_succ, List.getElem?_cons_zero]; exact rfl)
  case hfd21 => kernel_rfl
  case hrd21 => kernel_rfl
  case hQd21 => exact fun _ _ _ h => h
  case hyd21 =>
    refine Or.inl ⟨by rfl, ?_⟩
    intro V hSV
    go_simp
    (try with_reducible rfl)
  try simp only [Act.put, List.setIfInBounds_toArray, List.set_cons_zero, List.set_cons_succ]
  refine wpAnyH_take (i := 5) (oi := ?oid22) (v := ?vd22) ?hod22 (by kernel_rfl) ?hfd22 ?hrd22 ?hQd22 ?hyd22 hHeld ?restd22
  case hod22 => (simp only [List.getElem?_toArray, List.getElem?_cons_succ, List.getElem?_cons_zero]; exact rfl)
  case hfd22 => kernel_rfl
  case hrd22 => kernel_rfl
  case hQd22 => exact fun _ _ _ h => h
  case hyd22 =>
    refine Or.inl ⟨by rfl, ?_⟩
    intro V hSV
    go_simp
    (try with_reducible rfl)
  try simp only [Act.put, List.setIfInBounds_toArray, List.set_cons_zero, List.set_cons_succ]
  refine wpAnyH_take (i := 6) (oi := ?oid23) (v := ?vd23) ?hod23 (by kernel_rfl) ?hfd23 ?hrd23 ?hQd23 ?hyd23 hHeld ?restd23
  case hod23 => (simp only [List.getElem?_toArray, List.getElem?_cons_succ, List.getElem?_cons_zero]; exact rfl)
  case hfd23 => kernel_rfl
  case hrd23 => kernel_rfl
  case hQd23 => exact fun _ _ _ h => h
  case hyd23 =>
    refine Or.inl ⟨by rfl, ?_⟩
    intro V hSV
    go_simp
    (try with_reducible rfl)
  try simp only [Act.put, List.setIfInBounds_toArray, List.set_cons_zero, List.set_cons_succ]
  refine wpAnyH_take (i := 7) (oi := ?oid24) (v := ?vd24) ?hod24 (by kernel_rfl) ?hfd24 ?hrd24 ?hQd24 ?hyd24 hHeld ?restd24
  case hod24 => (simp only [List.getElem?_toArray, List.getElem?_cons_succ, List.getElem?_cons_zero]; exact rfl)
  case hfd24 => kernel_rfl
  case hrd24 => kernel_rfl
  case hQd24 => exact fun _ _ _ h => h
  case hyd24 =>
    refine Or.inl ⟨by rfl, ?_⟩
    intro V hSV
    have q1 := HT.out.readT hSV 1 rfl
    go_simp
    (try with_reducible rfl)
  try simp only [Act.put, List.setIfInBounds_toArray, List.set_cons_zero, List.set_cons_succ]
  refine wpAnyH_ready (rs := [8]) (by kernel_rfl) (by simp) ?_
  refine AllReadyH.cons (o := ?od25) ?hod25 (fun K hK => ?kd25) ?md25
  case hod25 => (simp only [List.getElem?_toArray, List.getElem?_cons_succ, List.getElem?_cons_zero]; exact rfl)
  case kd25 =>
    go_simp
    refine (take1_any A n c _ t bs _ (HR.out.below (Below.mono hHeld (Nat.le_of_lt HT.out.lt))) hc hm v x z HA.out).mono ?_
    rintro e Vd25 ⟨rfl, rfl⟩
    (try dsimp only)
    refine hK.out _ _ ?_ (fun hHeld => ?_)
    · exact hHeld
    clear hK K
    try simp only [Act.put, List.setIfInBounds_toArray, List.set_cons_zero, List.set_cons_succ]
    refine wpAnyH_take (i := 9) (oi := ?oid26) (v := ?vd26) ?hod26 (by kernel_rfl) ?hfd26 ?hrd26 ?hQd26 ?hyd26 hHeld ?restd26
    case hod26 => (simp only [List.getElem?_toArray, List.getElem?_cons_succ, List.getElem?_cons_zero]; exact rfl)
    case hfd26 => kernel_rfl
    case hrd26 => kernel_rfl
    case hQd26 => exact fun _ _ _ h => h
    case hyd26 =>
      refine Or.inl ⟨by rfl, ?_⟩
      intro V hSV
      go_simp
      (try with_reducible rfl)
    try simp only [Act.put, List.setIfInBounds_toArray, List.set_cons_zero, List.set_cons_succ]
    refine wpAnyH_take (i := 10) (oi := ?oid27) (v := ?vd27) ?hod27 (by kernel_rfl) ?hfd27 ?hrd27 ?hQd27 ?hyd27 hHeld ?restd27
    case hod27 => (simp only [List.getElem?_toArray, List.getElem?_cons_succ, List.getElem?_cons_zero]; exact rfl)
    case hfd27 => kernel_rfl
    case hrd27 => kernel_rfl
    case hQd27 => exact fun _ _ _ h => h
    case hyd27 =>
      refine Or.inl ⟨by rfl, ?_⟩
      intro V hSV
      go_simp
      (try with_reducible rfl)
    try simp only [Act.put, List.setIfInBounds_toArray, List.set_cons_zero, List.set_cons_succ]
    refine wpAnyH_take (i := 11) (oi := ?oid28) (v := ?vd28) ?hod28 (by kernel_rfl) ?hfd28 ?hrd28 ?hQd28 ?hyd28 hHeld ?restd28
    case hod28 => (simp only [List.getElem?_toArray, List.getElem?_cons_succ, List.getElem?_cons_zero]; exact rfl)
    case hfd28 => kernel_rfl
    case hrd28 => kernel_rfl
    case hQd28 => exact fun _ _ _ h => h
    case hyd28 =>
      refine Or.inl ⟨by rfl, ?_⟩
      intro V hSV
      go_simp
      (try with_reducible rfl)
    try simp only [Act.put, List.setIfInBounds_toArray, List.set_cons_zero, List.set_cons_succ]
    refine wpAnyH_take (i := 12) (oi := ?oid29) (v := ?vd29) ?hod29 (by kernel_rfl) ?hfd29 ?hrd29 ?hQd29 ?hyd29 hHeld ?restd29
    case hod29 => (simp only [List.getElem?_toArray, List.getElem?_cons_succ, List.getElem?_cons_zero]; exact rfl)
    case hfd29 => kernel_rfl
    case hrd29 => kernel_rfl
    case hQd29 => exact fun _ _ _ h => h
    case hyd29 =>
      refine Or.inl ⟨by rfl, ?_⟩
      intro V hSV
      go_simp
      (try with_reducible rfl)
    try simp only [Act.put, List.setIfInBounds_toArray, List.set_cons_zero, List.set_cons_succ]
    refine wpAnyH_take (i := 13) (oi := ?oid30) (v := ?vd30) ?hod30 (by kernel_rfl) ?hfd30 ?hrd30 ?hQd30 ?hyd30 hHeld ?restd30
    case hod30 => (simp only [List.getElem?_toArray, List.getElem?_cons_succ, List.getElem?_cons_zero]; exact rfl)
    case hfd30 => kernel_rfl
    case hrd30 => kernel_rfl
    case hQd30 => exact fun _ _ _ h => h
    case hyd30 =>
      refine Or.inl ⟨by rfl, ?_⟩
      intro V hSV
      go_simp
      (try with_reducible rfl)
    try simp only [Act.put, List.setIfInBounds_toArray, List.set_cons_zero, List.set_cons_succ]
    refine wpAnyH_take (i := 14) (oi := ?oid31) (v := ?vd31) ?hod31 (by kernel_rfl) ?hfd31 ?hrd31 ?hQd31 ?hyd31 hHeld ?restd31
    case hod31 => (simp only [List.getElem?_toArray, List.getElem?_cons_succ, List.getElem?_cons_zero]; exact rfl)
    case hfd31 => kernel_rfl
    case hrd31 => kernel_rfl
    case hQd31 => exact fun _ _ _ h => h
    case hyd31 =>
      refine Or.inl ⟨by rfl, ?_⟩
      intro V hSV
      go_simp
      (try with_reducible rfl)
    try simp only [Act.put, List.setIfInBounds_toArray, List.set_cons_zero, List.set_cons_succ]
    refine wpAnyH_take (i := 15) (oi := ?oid32) (v := ?vd32) ?hod32 (by kernel_rfl) ?hfd32 ?hrd32 ?hQd32 ?hyd32 hHeld ?restd32
    case hod32 => (simp only [List.getElem?_toArray, List.getElem?_cons_succ, List.getElem?_cons_zero]; exact rfl)
    case hfd32 => kernel_rfl
    case hrd32 => kernel_rfl
    case hQd32 => exact fun _ _ _ h => h
    case hyd32 =>
      refine Or.inl ⟨by rfl, ?_⟩
      intro V hSV
      go_simp
      (try with_reducible rfl)
    try simp only [Act.put, List.setIfInBounds_toArray, List.set_cons_zero, List.set_cons_succ]
    refine wpAnyH_done (by kernel_rfl) ?_ _
    repeat (first | go_skip | go_guarded | go_step)
    refine (past_any g A n c z v (x : Int) t _ (Bk.later HK.out hHeld)).mono ?_
    rintro e w' ⟨ht, h⟩
    have hto := (Turn.ofBelow (G := fun i => i = g) hHeld).trans ht
    rcases h with ⟨rfl, rfl, hg⟩ | ⟨hz, rfl, hg⟩
    · dsimp only
      repeat (first | go_skip | go_guarded | go_step)
      go_ret
      rcases tkAns_rByte HA.out with ⟨_, h⟩ | ⟨h, _⟩
      · exact ⟨hto, .inl ⟨v, x, _, rfl, rfl, h, hg⟩⟩
      · exact absurd rfl h
    · rcases tkAns_rByte HA.out with ⟨h, _⟩ | ⟨_, h⟩
      · exact absurd h hz
      · exact ⟨rfl, hto, .inr ⟨z, t, rfl, h, hg⟩⟩
  exact AllReadyH.nil
end Go.Proofs.Ytcoafgnbmgndeaa
