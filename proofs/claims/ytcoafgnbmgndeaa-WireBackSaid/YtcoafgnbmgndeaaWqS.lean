/- Layer 6 (wire), what the program appends: rows of conditions, clauses, rules. -/
import Derived.Test.YtcoafgnbmgndeaaWqR
set_option linter.unusedVariables false
set_option linter.unusedSimpArgs false
namespace Go.Proofs.Ytcoafgnbmgndeaa
open Go Go.RowKit

set_option maxRecDepth 100000 in
set_option maxHeartbeats 4000000 in
theorem appListL_any (B : Nat) (A0 : Option Addr) (c0 m : Nat) (bs : List UInt8) (A : Option Addr) (n c : Nat) (R : List SlA) (l : List Li) (w : World) (hown : Ow w B A0 c0 m bs) (hB : B ≤ w.heap.size) (hr : RdL w B A n R l) (hm : m + (rowB litB l).length ≤ 1000000000) :
    Calls Try.prog 72 #[.slice A0 m c0, .slice A n c, .func (.func 74) #[] #[]] w fun e w' => Puts B A0 c0 m bs (rowB litB l) w e w' := by
  have HL := Lib.hid (show l.length = n from RdL.lenL hr)
  have HO := Lib.hid hown
  have HR := Lib.hid hr
  have hrl : (rowB litB l).length = (l.flatMap litB).length + 1 := by unfold rowB; simp
  have hn : n ≤ 1000000000 := by
    have h := flatLen litB (fun x => by unfold litB bitB; simp) l
    rw [HL.out] at h
    omega
  have HRB := Lib.hid (show rowB litB l = UInt8.ofNat n :: l.flatMap litB by unfold rowB; rw [HL.out])
  obtain ⟨z, hz⟩ : ∃ z, z = UInt8.ofNat n := ⟨_, rfl⟩
  have e1 : IntKind.u8.wrap (n : Int) = (z.toNat : Int) := by
    rw [hz, IntKind.wrap_u8]
    simp
  rw [← hz] at HRB
  have hl1 := rdOne w z
  have HL1 := Lib.hid hl1
  have HA := Lib.hid (Ow.alloc hown (.cells #[.int .u8 (z.toNat : Int)] 5))
  have HB := Lib.hid (show Below w.heap.size w (w.alloc (.cells #[.int .u8 (z.toNat : Int)] 5)) from (Below.refl _ _).alloc (Nat.le_refl _) _)
  clear hown hr hz hl1
  go_enter Try.func72, Try.ntmps72
  repeat (first
    | (at_builtin; refine app8f _ rfl (.tmp 9) (.tmp 13) rfl B A0 c0 m bs rfl HA.out _ _ 1 1 [z] rfl HL1.out (by omega) (by simp; omega) ?_
       intro A2 c2 w2 ho2 ht2 hf2
       have HO2 := Lib.hid ho2
       have HT2 := Lib.hid ((Turn.ofBelow HB.out).trans ht2)
       have HF2 := Lib.hid (fun k hk => (hf2 k hk).imp id (fun h => show w.heap.size ≤ k by simp at h; omega))
       clear ho2 ht2 hf2)
    | go_skip | go_guarded | go_step)
  go_loopw [0, 17] (fun b' p' wr => ∃ (i : Nat) (A' : Option Addr) (c' m' : Nat), i ≤ n ∧ p' = .int .i64 (i : Int) ∧ b' = .slice A' m' c' ∧ Ow wr B A' c' m' (bs ++ (z :: (l.take i).flatMap litB)) ∧ Turn (fun k => (Value.slice A0 m c0).ownBlock = some k) w wr ∧ (∀ k, (Value.slice A' m' c').ownBlock = some k → (Value.slice A0 m c0).ownBlock = some k ∨ w.heap.size ≤ k)) (fun _ p _ => n - (intOf p).toNat)
  case atStart => exact ⟨0, A2, c2, m + 1, Nat.zero_le _, rfl, rfl, HO2.out, HT2.out, HF2.out⟩
  case round =>
    obtain ⟨i, A', c', m', hi, rfl, rfl, ho, ht, hf⟩ := hrel
    have HO1 := Lib.hid ho
    have HT1 := Lib.hid ht
    have HF1 := Lib.hid hf
    have hb := ht.below (B := B) (fun k _ h => (HO.out.lt k h).1) hB
    have hsr : B ≤ wr.heap.size := Nat.le_trans hB ht.size
    have hm1 := Ow.len ho
    rw [List.length_append, List.length_cons] at hm1
    have hm0 := Ow.len HO.out
    clear ho ht hf
    by_cases hlt : i < n
    · have hci : (i : Int) < (n : Int) := by omega
      have HR1 := Lib.hid (HR.out.below hb)
      obtain ⟨b, o, g, q, l2, Ai, ni, ci, hA, hbb, hx, hc0, hc1, hc2, hrow⟩ := HR1.out.at_ hlt
      subst hA
      have hsn := flatTake litB hx
      have hle := flatTake_le litB l (i + 1)
      rw [hsn, List.length_append] at hle
      have HSN := Lib.hid hsn
      clear hsn hb hx
      repeat (first | go_skip | go_guarded | go_step)
      refine (appLit_any B A' c' m' _ g q Ai ni ci l2 (wr.alloc (.cells #[.bool g, nv q, .slice Ai ni ci] 71)) (Ow.alloc HO1.out _) (by simp; omega) (hrow.below ((Below.refl _ _).alloc hsr _)) (by omega)).mono ?_
      rintro e w3 hp
      obtain ⟨A3, m3, c3, rfl, ho3, ht3, hf3⟩ := Puts.grow hp
      have HO3 := Lib.hid ho3
      have HT3 := Lib.hid (HT1.out.then_ ht3 (fun k hk h => by
        rcases HF1.out k h with h | h
        · exact h
        · omega))
      have HF3 := Lib.hid (fun k hk => show (Value.slice A0 m c0).ownBlock = some k ∨ w.heap.size ≤ k from by
        have := HT1.out.size
        rcases hf3 k hk with h | h
        · exact HF1.out k h
        · exact .inr (by omega))
      clear hp ho3 ht3 hf3 hc0 hc1 hc2 hrow
      dsimp only
      repeat (first | go_skip | go_guarded | go_step)
      go_roundw
      case rel => exact ⟨i + 1, A3, c3, m3, by omega, by go_num, rfl, by rw [HSN.out]; have := HO3.out; simpa [List.append_assoc] using this, HT3.out, HF3.out⟩
      case measure => simp [intOf] <;> omega
    · obtain rfl : i = n := by omega
      repeat (first | go_skip | go_guarded | go_step)
      go_ret
      refine ⟨A', m', c', rfl, ?_, HT1.out, HF1.out⟩
      rw [HRB.out]
      have := HO1.out
      rwa [List.take_of_length_le (by rw [HL.out]; omega)] at this

set_option maxRecDepth 100000 in
set_option maxHeartbeats 4000000 in
theorem appListK_any (B : Nat) (A0 : Option Addr) (c0 m : Nat) (bs : List UInt8) (A : Option Addr) (n c : Nat) (R : List SlA) (l : List Co) (w : World) (hown : Ow w B A0 c0 m bs) (hB : B ≤ w.heap.size) (hr : RdK w B A n R l) (hm : m + (rowB condB l).length ≤ 1000000000) :
    Calls Try.prog 81 #[.slice A0 m c0, .slice A n c, .func (.func 83) #[] #[]] w fun e w' => Puts B A0 c0 m bs (rowB condB l) w e w' := by
  have HL := Lib.hid (show l.length = n from RdK.lenL hr)
  have HO := Lib.hid hown
  have HR := Lib.hid hr
  have hrl : (rowB condB l).length = (l.flatMap condB).length + 1 := by unfold rowB; simp
  have hn : n ≤ 1000000000 := by
    have h := flatLen condB (fun x => by unfold condB bitB; simp) l
    rw [HL.out] at h
    omega
  have HRB := Lib.hid (show rowB condB l = UInt8.ofNat n :: l.flatMap condB by unfold rowB; rw [HL.out])
  obtain ⟨z, hz⟩ : ∃ z, z = UInt8.ofNat n := ⟨_, rfl⟩
  have e1 : IntKind.u8.wrap (n : Int) = (z.toNat : Int) := by
    rw [hz, IntKind.wrap_u8]
    simp
  rw [← hz] at HRB
  have hl1 := rdOne w z
  have HL1 := Lib.hid hl1
  have HA := Lib.hid (Ow.alloc hown (.cells #[.int .u8 (z.toNat : Int)] 5))
  have HB := Lib.hid (show Below w.heap.size w (w.alloc (.cells #[.int .u8 (z.toNat : Int)] 5)) from (Below.refl _ _).alloc (Nat.le_refl _) _)
  clear hown hr hz hl1
  go_enter Try.func81, Try.ntmps81
  repeat (first
    | (at_builtin; refine app8f _ rfl (.tmp 9) (.tmp 13) rfl B A0 c0 m bs rfl HA.out _ _ 1 1 [z] rfl HL1.out (by omega) (by simp; omega) ?_
       intro A2 c2 w2 ho2 ht2 hf2
       have HO2 := Lib.hid ho2
       have HT2 := Lib.hid ((Turn.ofBelow HB.out).trans ht2)
       have HF2 := Lib.hid (fun k hk => (hf2 k hk).imp id (fun h => show w.heap.size ≤ k by simp at h; omega))
       clear ho2 ht2 hf2)
    | go_skip | go_guarded | go_step)
  go_loopw [0, 17] (fun b' p' wr => ∃ (i : Nat) (A' : Option Addr) (c' m' : Nat), i ≤ n ∧ p' = .int .i64 (i : Int) ∧ b' = .slice A' m' c' ∧ Ow wr B A' c' m' (bs ++ (z :: (l.take i).flatMap condB)) ∧ Turn (fun k => (Value.slice A0 m c0).ownBlock = some k) w wr ∧ (∀ k, (Value.slice A' m' c').ownBlock = some k → (Value.slice A0 m c0).ownBlock = some k ∨ w.heap.size ≤ k)) (fun _ p _ => n - (intOf p).toNat)
  case atStart => exact ⟨0, A2, c2, m + 1, Nat.zero_le _, rfl, rfl, HO2.out, HT2.out, HF2.out⟩
  case round =>
    obtain ⟨i, A', c', m', hi, rfl, rfl, ho, ht, hf⟩ := hrel
    have HO1 := Lib.hid ho
    have HT1 := Lib.hid ht
    have HF1 := Lib.hid hf
    have hb := ht.below (B := B) (fun k _ h => (HO.out.lt k h).1) hB
    have hsr : B ≤ wr.heap.size := Nat.le_trans hB ht.size
    have hm1 := Ow.len ho
    rw [List.length_append, List.length_cons] at hm1
    have hm0 := Ow.len HO.out
    clear ho ht hf
    by_cases hlt : i < n
    · have hci : (i : Int) < (n : Int) := by omega
      have HR1 := Lib.hid (HR.out.below hb)
      obtain ⟨b, o, g, s, x, q, l2, Ai, ni, ci, hA, hbb, hx, hc0, hc1, hc2, hc3, hc4, hc5, hrow⟩ := HR1.out.at_ hlt
      subst hA
      have hsn := flatTake condB hx
      have hle := flatTake_le condB l (i + 1)
      rw [hsn, List.length_append] at hle
      have HSN := Lib.hid hsn
      clear hsn hb hx
      repeat (first | go_skip | go_guarded | go_step)
      refine (appCond_any B A' c' m' _ g s x q Ai ni ci l2 (wr.alloc (.cells #[.bool g, .bool s, .bool x.1, nv x.2, nv q, .slice Ai ni ci] 99)) (Ow.alloc HO1.out _) (by simp; omega) (hrow.below ((Below.refl _ _).alloc hsr _)) (by omega)).mono ?_
      rintro e w3 hp
      obtain ⟨A3, m3, c3, rfl, ho3, ht3, hf3⟩ := Puts.grow hp
      have HO3 := Lib.hid ho3
      have HT3 := Lib.hid (HT1.out.then_ ht3 (fun k hk h => by
        rcases HF1.out k h with h | h
        · exact h
        · omega))
      have HF3 := Lib.hid (fun k hk => show (Value.slice A0 m c0).ownBlock = some k ∨ w.heap.size ≤ k from by
        have := HT1.out.size
        rcases hf3 k hk with h | h
        · exact HF1.out k h
        · exact .inr (by omega))
      clear hp ho3 ht3 hf3 hc0 hc1 hc2 hc3 hc4 hc5 hrow
      dsimp only
      repeat (first | go_skip | go_guarded | go_step)
      go_roundw
      case rel => exact ⟨i + 1, A3, c3, m3, by omega, by go_num, rfl, by rw [HSN.out]; have := HO3.out; simpa [List.append_assoc] using this, HT3.out, HF3.out⟩
      case measure => simp [intOf] <;> omega
    · obtain rfl : i = n := by omega
      repeat (first | go_skip | go_guarded | go_step)
      go_ret
      refine ⟨A', m', c', rfl, ?_, HT1.out, HF1.out⟩
      rw [HRB.out]
      have := HO1.out
      rwa [List.take_of_length_le (by rw [HL.out]; omega)] at this

set_option maxRecDepth 100000 in
set_option maxHeartbeats 4000000 in
theorem appClause_any (B : Nat) (A0 : Option Addr) (c0 m : Nat) (bs : List UInt8) (p : UInt32) (A : Option Addr) (n c : Nat) (l : List Tm) (A2 : Option Addr) (n2 c2 : Nat) (R : List SlA) (L : List Li) (w : World) (hown : Ow w B A0 c0 m bs) (hB : B ≤ w.heap.size) (hr : RdT w B A n l) (hr2 : RdL w B A2 n2 R L) (hm : m + (clauseB ((p, l), L)).length ≤ 1000000000) :
    Calls Try.prog 46 #[.slice A0 m c0, .agg #[nv p, .slice A n c, .slice A2 n2 c2]] w fun e w' => Puts B A0 c0 m bs (clauseB ((p, l), L)) w e w' := by
  have HE := Lib.hid (show clauseB ((p, l), L) = atomB (p, l) ++ rowB litB L from rfl)
  rw [HE.out, List.length_append] at hm
  have hm0 := Ow.len hown
  have hnot : (Value.slice A0 m c0).ownBlock ≠ some w.heap.size := fun h => by have := (hown.lt _ h).2; omega
  have hge := fun k h => (hown.lt k h).1
  obtain ⟨U, hU, hH, hb, hO⟩ : ∃ U, U = w.alloc (.cells #[nv p, .slice A n c, .slice A2 n2 c2] 45) ∧ Bk U w.heap.size 45 [nv p, .slice A n c, .slice A2 n2 c2] ∧ Below w.heap.size w U ∧ Ow U B A0 c0 m bs :=
    ⟨_, rfl, Bk.new w _ _, (Below.refl _ _).alloc (Nat.le_refl _) _, Ow.alloc hown _⟩
  have HU := Lib.hid hU
  have HH := Lib.hid hH
  have HB := Lib.hid hb
  have HO := Lib.hid hO
  have HN := Lib.hid hnot
  have HGE := Lib.hid hge
  have HR := Lib.hid (hr.below (hb.mono hB))
  have HR2 := Lib.hid (hr2.below (hb.mono hB))
  have hsU : B ≤ U.heap.size := Nat.le_trans hB hb.size
  clear hU hH hb hO hr hr2 hown hnot hge
  go_enter Try.func46, Try.ntmps46
  go_upto_region 1 with (fail)
  rw [← HU.out]
  clear HU
  generalize hhb : w.heap.size = hb at HH HN HB ⊢
  have HOD := Lib.hid (show Ow U.drew B A0 c0 m bs from HO.out)
  have HRD := Lib.hid (show RdT U.drew B A n l from HR.out)
  refine wp_region_held_drew (S := fun V => Turn (fun k => (Value.slice A0 m c0).ownBlock = some k) U V) (by kernel_rfl) ?_ (fun hHeld => ?_)
  · exact (Turn.refl _ _).drew
  refine wpAnyH_take (i := 0) (oi := ?oid33) (v := ?vd33) ?hod33 (by kernel_rfl) ?hfd33 ?hrd33 ?hQd33 ?hyd33 hHeld ?restd33
  case hod33 => (simp only [List.getElem?_toArray, List.getElem?_cons_succ, List.getElem?_cons_zero]; exact rfl)
  case hfd33 => kernel_rfl
  case hrd33 => kernel_rfl
  case hQd33 => exact fun _ _ _ h => h
  case hyd33 =>
    refine Or.inl ⟨by rfl, ?_⟩
    intro V hSV
    go_simp
    (try with_reducible rfl)
  try simp only [Act.put, List.setIfInBounds_toArray, List.set_cons_zero, List.set_cons_succ]
  refine wpAnyH_take (i := 1) (oi := ?oid34) (v := ?vd34) ?hod34 (by kernel_rfl) ?hfd34 ?hrd34 ?hQd34 ?hyd34 hHeld ?restd34
  case hod34 => (simp only [List.getElem?_toArray, List.getElem?_cons_succ, List.getElem?_cons_zero]; exact rfl)
  case hfd34 => kernel_rfl
  case hrd34 => kernel_rfl
  case hQd34 => exact fun _ _ _ h => h
  case hyd34 =>
    refine Or.inl ⟨by rfl, ?_⟩
    intro V hSV
    go_simp
    (try with_reducible rfl)
  try simp only [Act.put, List.setIfInBounds_toArray, List.set_cons_zero, List.set_cons_succ]
  refine wpAnyH_take (i := 2) (oi := ?oid35) (v := ?vd35) ?hod35 (by kernel_rfl) ?hfd35 ?hrd35 ?hQd35 ?hyd35 hHeld ?restd35
  case hod35 => (simp only [List.getElem?_toArray, List.getElem?_cons_succ, List.getElem?_cons_zero]; exact rfl)
  case hfd35 => kernel_rfl
  case hrd35 => kernel_rfl
  case hQd35 => exact fun _ _ _ h => h
  case hyd35 =>
    refine Or.inl ⟨by rfl, ?_⟩
    intro V hSV
    have q0 := (hSV.bk HH.out HN.out).readT (Below.refl _ _) 0 rfl
    have q1 := (hSV.bk HH.out HN.out).readT (Below.refl _ _) 1 rfl
    go_simp
    (try with_reducible rfl)
  try simp only [Act.put, List.setIfInBounds_toArray, List.set_cons_zero, List.set_cons_succ]
  refine wpAnyH_take (i := 4) (oi := ?oid36) (v := ?vd36) ?hod36 (by kernel_rfl) ?hfd36 ?hrd36 ?hQd36 ?hyd36 hHeld ?restd36
  case hod36 => (simp only [List.getElem?_toArray, List.getElem?_cons_succ, List.getElem?_cons_zero]; exact rfl)
  case hfd36 => kernel_rfl
  case hrd36 => kernel_rfl
  case hQd36 => exact fun _ _ _ h => h
  case hyd36 =>
    refine Or.inl ⟨by rfl, ?_⟩
    intro V hSV
    go_simp
    (try with_reducible rfl)
  try simp only [Act.put, List.setIfInBounds_toArray, List.set_cons_zero, List.set_cons_succ]
  refine wpAnyH_take (i := 5) (oi := ?oid37) (v := ?vd37) ?hod37 (by kernel_rfl) ?hfd37 ?hrd37 ?hQd37 ?hyd37 hHeld ?restd37
  case hod37 => (simp only [List.getElem?_toArray, List.getElem?_cons_succ, List.getElem?_cons_zero]; exact rfl)
  case hfd37 => kernel_rfl
  case hrd37 => kernel_rfl
  case hQd37 => exact fun _ _ _ h => h
  case hyd37 =>
    refine Or.inl ⟨by rfl, ?_⟩
    intro V hSV
    have q2 := (hSV.bk HH.out HN.out).readT (Below.refl _ _) 2 rfl
    go_simp
    (try with_reducible rfl)
  try simp only [Act.put, List.setIfInBounds_toArray, List.set_cons_zero, List.set_cons_succ]
  refine wpAnyH_ready (rs := [3]) (by kernel_rfl) (by simp) ?_
  refine AllReadyH.cons (o := ?od38) ?hod38 (fun K hK => ?kd38) ?md38
  case hod38 => (simp only [List.getElem?_toArray, List.getElem?_cons_succ, List.getElem?_cons_zero]; exact rfl)
  case kd38 =>
    go_simp
    refine (appAtom_any B A0 c0 m bs p A n c l _ HOD.out hsU HRD.out (by omega)).mono ?_
    rintro e V1 ⟨A1, m1, c1, rfl, ho1, ht1, hf1⟩
    have TT1 := Turn.trans hHeld ht1
    have hb1 : Below B U V1 := Turn.below (B := B) TT1 (fun k _ h => HGE.out k h) hsU
    have hs1 : B ≤ V1.heap.size := Nat.le_trans hsU hb1.size
    have hl1 := Ow.len ho1
    rw [List.length_append] at hl1
    (try dsimp only)
    refine hK.out _ _ ?_ (fun hHeld => ?_)
    · exact Turn.trans hHeld ht1
    clear hK K
    try simp only [Act.put, List.setIfInBounds_toArray, List.set_cons_zero, List.set_cons_succ]
    refine wpAnyH_ready (rs := [6]) (by kernel_rfl) (by simp) ?_
    refine AllReadyH.cons (o := ?od39) ?hod39 (fun K hK => ?kd39) ?md39
    case hod39 => (simp only [List.getElem?_toArray, List.getElem?_cons_succ, List.getElem?_cons_zero]; exact rfl)
    case kd39 =>
      go_simp
      refine (appListL_any B A1 c1 m1 _ A2 n2 c2 R L _ ho1 hs1 (HR2.out.below hb1) (by omega)).mono ?_
      rintro e V2 ⟨A2', m2', c2', rfl, ho2, ht2, hf2⟩
      have htt := Turn.then_ (G := fun k => (Value.slice A0 m c0).ownBlock = some k) hHeld ht2 (fun k hk h => by
        rcases hf1 k h with h | h
        · exact h
        · exact absurd hk (by have := (show U.heap.size ≤ k from h); omega))
      (try dsimp only)
      refine hK.out _ _ ?_ (fun hHeld => ?_)
      · exact htt
      clear hK K
      try simp only [Act.put, List.setIfInBounds_toArray, List.set_cons_zero, List.set_cons_succ]
      refine wpAnyH_take (i := 7) (oi := ?oid40) (v := ?vd40) ?hod40 (by kernel_rfl) ?hfd40 ?hrd40 ?hQd40 ?hyd40 hHeld ?restd40
      case hod40 => (simp only [List.getElem?_toArray, List.getElem?_cons_succ, List.getElem?_cons_zero]; exact rfl)
      case hfd40 => kernel_rfl
      case hrd40 => kernel_rfl
      case hQd40 => exact fun _ _ _ h => h
      case hyd40 =>
        refine Or.inl ⟨by rfl, ?_⟩
        intro V hSV
        go_simp
        (try with_reducible rfl)
      try simp only [Act.put, List.setIfInBounds_toArray, List.set_cons_zero, List.set_cons_succ]
      have HFin := Lib.hid (show Puts B A0 c0 m bs (clauseB ((p, l), L)) w (.returned (.slice A2' m2' c2')) V2 from by
        have hwU : Turn (fun k => (Value.slice A0 m c0).ownBlock = some k) w U := Turn.ofBelow (show Below w.heap.size w U by rw [hhb]; exact HB.out)
        rw [HE.out]
        refine Puts.then_ (hwU.trans (show Turn _ U V1 from TT1)) (fun k hk => (hf1 k hk).imp id (fun h => Nat.le_trans hwU.size h)) ⟨A2', m2', c2', rfl, ho2, ht2, hf2⟩)
      refine wpAnyH_done (by kernel_rfl) ?_ _
      repeat (first | go_skip | go_guarded | go_step)
      go_ret
      exact HFin.out
    exact AllReadyH.nil
  exact AllReadyH.nil

set_option maxRecDepth 100000 in
set_option maxHeartbeats 4000000 in
theorem appRule_any (B : Nat) (A0 : Option Addr) (c0 m : Nat) (bs : List UInt8) (s : Bool) (x : Tm) (p : UInt32) (A : Option Addr) (n c : Nat) (l : List Tm) (A2 : Option Addr) (n2 c2 : Nat) (R : List SlA) (L : List Co) (w : World) (hown : Ow w B A0 c0 m bs) (hB : B ≤ w.heap.size) (hr : RdT w B A n l) (hr2 : RdK w B A2 n2 R L) (hm : m + (ruleB ((s, x, (p, l)), L)).length ≤ 1000000000) :
    Calls Try.prog 55 #[.slice A0 m c0, .agg #[.bool s, .bool x.1, nv x.2, nv p, .slice A n c, .slice A2 n2 c2]] w fun e w' => Puts B A0 c0 m bs (ruleB ((s, x, (p, l)), L)) w e w' := by
  have HE := Lib.hid (show ruleB ((s, x, (p, l)), L) = sayB (s, x, (p, l)) ++ rowB condB L from rfl)
  rw [HE.out, List.length_append] at hm
  have hm0 := Ow.len hown
  have hnot : (Value.slice A0 m c0).ownBlock ≠ some w.heap.size := fun h => by have := (hown.lt _ h).2; omega
  have hge := fun k h => (hown.lt k h).1
  obtain ⟨U, hU, hH, hb, hO⟩ : ∃ U, U = w.alloc (.cells #[.bool s, .bool x.1, nv x.2, nv p, .slice A n c, .slice A2 n2 c2] 59) ∧ Bk U w.heap.size 59 [.bool s, .bool x.1, nv x.2, nv p, .slice A n c, .slice A2 n2 c2] ∧ Below w.heap.size w U ∧ Ow U B A0 c0 m bs :=
    ⟨_, rfl, Bk.new w _ _, (Below.refl _ _).alloc (Nat.le_refl _) _, Ow.alloc hown _⟩
  have HU := Lib.hid hU
  have HH := Lib.hid hH
  have HB := Lib.hid hb
  have HO := Lib.hid hO
  have HN := Lib.hid hnot
  have HGE := Lib.hid hge
  have HR := Lib.hid (hr.below (hb.mono hB))
  have HR2 := Lib.hid (hr2.below (hb.mono hB))
  have hsU : B ≤ U.heap.size := Nat.le_trans hB hb.size
  clear hU hH hb hO hr hr2 hown hnot hge
  go_enter Try.func55, Try.ntmps55
  go_upto_region 1 with (fail)
  rw [← HU.out]
  clear HU
  generalize hhb : w.heap.size = hb at HH HN HB ⊢
  have HOD := Lib.hid (show Ow U.drew B A0 c0 m bs from HO.out)
  have HRD := Lib.hid (show RdT U.drew B A n l from HR.out)
  refine wp_region_held_drew (S := fun V => Turn (fun k => (Value.slice A0 m c0).ownBlock = some k) U V) (by kernel_rfl) ?_ (fun hHeld => ?_)
  · exact (Turn.refl _ _).drew
  refine wpAnyH_take (i := 0) (oi := ?oid41) (v := ?vd41) ?hod41 (by kernel_rfl) ?hfd41 ?hrd41 ?hQd41 ?hyd41 hHeld ?restd41
  case hod41 => (simp only [List.getElem?_toArray, List.getElem?_cons_succ, List.getElem?_cons_zero]; exact rfl)
  case hfd41 => kernel_rfl
  case hrd41 => kernel_rfl
  case hQd41 => exact fun _ _ _ h => h
  case hyd41 =>
    refine Or.inl ⟨by rfl, ?_⟩
    intro V hSV
    go_simp
    (try with_reducible rfl)
  try simp only [Act.put, List.setIfInBounds_toArray, List.set_cons_zero, List.set_cons_succ]
  refine wpAnyH_take (i := 1) (oi := ?oid42) (v := ?vd42) ?hod42 (by kernel_rfl) ?hfd42 ?hrd42 ?hQd42 ?hyd42 hHeld ?restd42
  case hod42 => (simp only [List.getElem?_toArray, List.getElem?_cons_succ, List.getElem?_cons_zero]; exact rfl)
  case hfd42 => kernel_rfl
  case hrd42 => kernel_rfl
  case hQd42 => exact fun _ _ _ h => h
  case hyd42 =>
    refine Or.inl ⟨by rfl, ?_⟩
    intro V hSV
    go_simp
    (try with_reducible rfl)
  try simp only [Act.put, List.setIfInBounds_toArray, List.set_cons_zero, List.set_cons_succ]
  refine wpAnyH_take (i := 2) (oi := ?oid43) (v := ?vd43) ?hod43 (by kernel_rfl) ?hfd43 ?hrd43 ?hQd43 ?hyd43 hHeld ?restd43
  case hod43 => (simp only [List.getElem?_toArray, List.getElem?_cons_succ, List.getElem?_cons_zero]; exact rfl)
  case hfd43 => kernel_rfl
  case hrd43 => kernel_rfl
  case hQd43 => exact fun _ _ _ h => h
  case hyd43 =>
    refine Or.inl ⟨by rfl, ?_⟩
    intro V hSV
    have q0 := (hSV.bk HH.out HN.out).readT (Below.refl _ _) 0 rfl
    have q1 := (hSV.bk HH.out HN.out).readT (Below.refl _ _) 1 rfl
    have q2 := (hSV.bk HH.out HN.out).readT (Below.refl _ _) 2 rfl
    have q3 := (hSV.bk HH.out HN.out).readT (Below.refl _ _) 3 rfl
    have q4 := (hSV.bk HH.out HN.out).readT (Below.refl _ _) 4 rfl
    go_simp
    (try with_reducible rfl)
  try simp only [Act.put, List.setIfInBounds_toArray, List.set_cons_zero, List.set_cons_succ]
  refine wpAnyH_take (i := 4) (oi := ?oid44) (v := ?vd44) ?hod44 (by kernel_rfl) ?hfd44 ?hrd44 ?hQd44 ?hyd44 hHeld ?restd44
  case hod44 => (simp only [List.getElem?_toArray, List.getElem?_cons_succ, List.getElem?_cons_zero]; exact rfl)
  case hfd44 => kernel_rfl
  case hrd44 => kernel_rfl
  case hQd44 => exact fun _ _ _ h => h
  case hyd44 =>
    refine Or.inl ⟨by rfl, ?_⟩
    intro V hSV
    go_simp
    (try with_reducible rfl)
  try simp only [Act.put, List.setIfInBounds_toArray, List.set_cons_zero, List.set_cons_succ]
  refine wpAnyH_take (i := 5) (oi := ?oid45) (v := ?vd45) ?hod45 (by kernel_rfl) ?hfd45 ?hrd45 ?hQd45 ?hyd45 hHeld ?restd45
  case hod45 => (simp only [List.getElem?_toArray, List.getElem?_cons_succ, List.getElem?_cons_zero]; exact rfl)
  case hfd45 => kernel_rfl
  case hrd45 => kernel_rfl
  case hQd45 => exact fun _ _ _ h => h
  case hyd45 =>
    refine Or.inl ⟨by rfl, ?_⟩
    intro V hSV
    have q5 := (hSV.bk HH.out HN.out).readT (Below.refl _ _) 5 rfl
    go_simp
    (try with_reducible rfl)
  try simp only [Act.put, List.setIfInBounds_toArray, List.set_cons_zero, List.set_cons_succ]
  refine wpAnyH_ready (rs := [3]) (by kernel_rfl) (by simp) ?_
  refine AllReadyH.cons (o := ?od46) ?hod46 (fun K hK => ?kd46) ?md46
  case hod46 => (simp only [List.getElem?_toArray, List.getElem?_cons_succ, List.getElem?_cons_zero]; exact rfl)
  case kd46 =>
    go_simp
    refine (appSay_any B A0 c0 m bs s x p A n c l _ HOD.out hsU HRD.out (by omega)).mono ?_
    rintro e V1 ⟨A1, m1, c1, rfl, ho1, ht1, hf1⟩
    have TT1 := Turn.trans hHeld ht1
    have hb1 : Below B U V1 := Turn.below (B := B) TT1 (fun k _ h => HGE.out k h) hsU
    have hs1 : B ≤ V1.heap.size := Nat.le_trans hsU hb1.size
    have hl1 := Ow.len ho1
    rw [List.length_append] at hl1
    (try dsimp only)
    refine hK.out _ _ ?_ (fun hHeld => ?_)
    · exact Turn.trans hHeld ht1
    clear hK K
    try simp only [Act.put, List.setIfInBounds_toArray, List.set_cons_zero, List.set_cons_succ]
    refine wpAnyH_ready (rs := [6]) (by kernel_rfl) (by simp) ?_
    refine AllReadyH.cons (o := ?od47) ?hod47 (fun K hK => ?kd47) ?md47
    case hod47 => (simp only [List.getElem?_toArray, List.getElem?_cons_succ, List.getElem?_cons_zero]; exact rfl)
    case kd47 =>
      go_simp
      refine (appListK_any B A1 c1 m1 _ A2 n2 c2 R L _ ho1 hs1 (HR2.out.below hb1) (by omega)).mono ?_
      rintro e V2 ⟨A2', m2', c2', rfl, ho2, ht2, hf2⟩
      have htt := Turn.then_ (G := fun k => (Value.slice A0 m c0).ownBlock = some k) hHeld ht2 (fun k hk h => by
        rcases hf1 k h with h | h
        · exact h
        · exact absurd hk (by have := (show U.heap.size ≤ k from h); omega))
      (try dsimp only)
      refine hK.out _ _ ?_ (fun hHeld => ?_)
      · exact htt
      clear hK K
      try simp only [Act.put, List.setIfInBounds_toArray, List.set_cons_zero, List.set_cons_succ]
      refine wpAnyH_take (i := 7) (oi := ?oid48) (v := ?vd48) ?hod48 (by kernel_rfl) ?hfd48 ?hrd48 ?hQd48 ?hyd48 hHeld ?restd48
      case hod48 => (simp only [List.getElem?_toArray, List.getElem?_cons_succ, List.getElem?_cons_zero]; exact rfl)
      case hfd48 => kernel_rfl
      case hrd48 => kernel_rfl
      case hQd48 => exact fun _ _ _ h => h
      case hyd48 =>
        refine Or.inl ⟨by rfl, ?_⟩
        intro V hSV
        go_simp
        (try with_reducible rfl)
      try simp only [Act.put, List.setIfInBounds_toArray, List.set_cons_zero, List.set_cons_succ]
      have HFin := Lib.hid (show Puts B A0 c0 m bs (ruleB ((s, x, (p, l)), L)) w (.returned (.slice A2' m2' c2')) V2 from by
        have hwU : Turn (fun k => (Value.slice A0 m c0).ownBlock = some k) w U := Turn.ofBelow (show Below w.heap.size w U by rw [hhb]; exact HB.out)
        rw [HE.out]
        refine Puts.then_ (hwU.trans (show Turn _ U V1 from TT1)) (fun k hk => (hf1 k hk).imp id (fun h => Nat.le_trans hwU.size h)) ⟨A2', m2', c2', rfl, ho2, ht2, hf2⟩)
      refine wpAnyH_done (by kernel_rfl) ?_ _
      repeat (first | go_skip | go_guarded | go_step)
      go_ret
      exact HFin.out
    exact AllReadyH.nil
  exact AllReadyH.nil
end Go.Proofs.Ytcoafgnbmgndeaa
