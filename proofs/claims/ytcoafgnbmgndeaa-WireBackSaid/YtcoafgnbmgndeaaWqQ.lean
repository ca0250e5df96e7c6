/- Layer 6 (wire), what the program appends: rows of numbers and terms, atoms, facts. -/
import Derived.Test.YtcoafgnbmgndeaaWqP
set_option linter.unusedVariables false
set_option linter.unusedSimpArgs false
namespace Go.Proofs.Ytcoafgnbmgndeaa
open Go Go.RowKit

theorem Puts.grow {B : Nat} {A0 : Option Addr} {c0 m : Nat} {bs x : List UInt8} {w w' : World} {o : Obj} {e : Ending} (h : Puts B A0 c0 m bs x (w.alloc o) e w') : Puts B A0 c0 m bs x w e w' := by
  obtain ⟨A', m', c', he, ho, ht, hf⟩ := h
  have hb : Below w.heap.size w (w.alloc o) := (Below.refl _ _).alloc (Nat.le_refl _) _
  exact ⟨A', m', c', he, ho, (Turn.ofBelow hb).trans ht, fun k hk => (hf k hk).imp id (fun h => Nat.le_trans hb.size h)⟩
theorem flatTake {α : Type} (f : α → List UInt8) {l : List α} {i : Nat} {x : α} (h : l[i]? = some x) : (l.take (i + 1)).flatMap f = (l.take i).flatMap f ++ f x := by
  rw [List.take_add_one, h]
  simp
theorem flatLen {α : Type} (f : α → List UInt8) (hf : ∀ x, 1 ≤ (f x).length) : ∀ l : List α, l.length ≤ (l.flatMap f).length
  | [] => Nat.zero_le _
  | x :: l => by
    rw [List.flatMap_cons, List.length_append, List.length_cons]
    have := hf x
    have := flatLen f hf l
    omega
theorem flatTake_le {α : Type} (f : α → List UInt8) (l : List α) (i : Nat) : ((l.take i).flatMap f).length ≤ (l.flatMap f).length := by
  have h : l.flatMap f = (l.take i).flatMap f ++ (l.drop i).flatMap f := by rw [← List.flatMap_append, List.take_append_drop]
  rw [h, List.length_append]
  omega

set_option maxRecDepth 100000 in
set_option maxHeartbeats 4000000 in
theorem appListU_any (B : Nat) (A0 : Option Addr) (c0 m : Nat) (bs : List UInt8) (A : Option Addr) (n c : Nat) (l : List UInt32) (w : World) (hown : Ow w B A0 c0 m bs) (hB : B ≤ w.heap.size) (hr : RdU w B A n l) (hm : m + (rowB u32B l).length ≤ 1000000000) :
    Calls Try.prog 64 #[.slice A0 m c0, .slice A n c, .func (.func 65) #[] #[]] w fun e w' => Puts B A0 c0 m bs (rowB u32B l) w e w' := by
  have HL := Lib.hid (show l.length = n from rdU_len hr)
  have HO := Lib.hid hown
  have HR := Lib.hid hr
  have hrl : (rowB u32B l).length = (l.flatMap u32B).length + 1 := by unfold rowB; simp
  have hn : n ≤ 1000000000 := by
    have h := flatLen u32B (fun x => (var_len x.toNat).1) l
    rw [HL.out] at h
    omega
  have HRB := Lib.hid (show rowB u32B l = UInt8.ofNat n :: l.flatMap u32B by unfold rowB; rw [HL.out])
  obtain ⟨z, hz⟩ : ∃ z, z = UInt8.ofNat n := ⟨_, rfl⟩
  have e1 : IntKind.u8.wrap (n : Int) = (z.toNat : Int) := by
    rw [hz, IntKind.wrap_u8]
    simp
  rw [← hz] at HRB
  have hl1 := rdOne w z
  have HL1 := Lib.hid hl1
  have HA := Lib.hid (Ow.alloc hown (.cells #[.int .u8 (z.toNat : Int)] 5))
  have HB := Lib.hid (show Below w.heap.size w (w.alloc (.cells #[.int .u8 (z.toNat : Int)] 5)) from (Below.refl _ _).alloc (Nat.le_refl _) _)
  clear hown hr hz hl1
  go_enter Try.func64, Try.ntmps64
  repeat (first
    | (at_builtin; refine app8f _ rfl (.tmp 9) (.tmp 13) rfl B A0 c0 m bs rfl HA.out _ _ 1 1 [z] rfl HL1.out (by omega) (by simp; omega) ?_
       intro A2 c2 w2 ho2 ht2 hf2
       have HO2 := Lib.hid ho2
       have HT2 := Lib.hid ((Turn.ofBelow HB.out).trans ht2)
       have HF2 := Lib.hid (fun k hk => (hf2 k hk).imp id (fun h => show w.heap.size ≤ k by simp at h; omega))
       clear ho2 ht2 hf2)
    | go_skip | go_guarded | go_step)
  go_loopw [0, 17] (fun b' p' wr => ∃ (i : Nat) (A' : Option Addr) (c' m' : Nat), i ≤ n ∧ p' = .int .i64 (i : Int) ∧ b' = .slice A' m' c' ∧ Ow wr B A' c' m' (bs ++ (z :: (l.take i).flatMap u32B)) ∧ Turn (fun k => (Value.slice A0 m c0).ownBlock = some k) w wr ∧ (∀ k, (Value.slice A' m' c').ownBlock = some k → (Value.slice A0 m c0).ownBlock = some k ∨ w.heap.size ≤ k)) (fun _ p _ => n - (intOf p).toNat)
  case atStart => exact ⟨0, A2, c2, m + 1, Nat.zero_le _, rfl, rfl, HO2.out, HT2.out, HF2.out⟩
  case round =>
    obtain ⟨i, A', c', m', hi, rfl, rfl, ho, ht, hf⟩ := hrel
    have HO1 := Lib.hid ho
    have HT1 := Lib.hid ht
    have HF1 := Lib.hid hf
    have hb := ht.below (B := B) (fun k _ h => (HO.out.lt k h).1) hB
    have hsr : B ≤ wr.heap.size := Nat.le_trans hB ht.size
    have hm1 := Ow.len ho
    rw [List.length_append, List.length_cons] at hm1
    have hm0 := Ow.len HO.out
    clear ho ht hf
    by_cases hlt : i < n
    · have hci : (i : Int) < (n : Int) := by omega
      have HR1 := Lib.hid (HR.out.below hb)
      obtain ⟨b, o, x, hA, hbb, hx, hc0⟩ := rdU_at HR1.out hlt
      subst hA
      have hsn := flatTake u32B hx
      have hle := flatTake_le u32B l (i + 1)
      rw [hsn, List.length_append] at hle
      have HSN := Lib.hid hsn
      clear hsn hb hx
      repeat (first | go_skip | go_guarded | go_step)
      refine (appNumber_any B A' c' m' _ x wr HO1.out hsr (by omega)).mono ?_
      rintro e w3 hp
      obtain ⟨A3, m3, c3, rfl, ho3, ht3, hf3⟩ := hp
      have HO3 := Lib.hid ho3
      have HT3 := Lib.hid (HT1.out.then_ ht3 (fun k hk h => by
        rcases HF1.out k h with h | h
        · exact h
        · omega))
      have HF3 := Lib.hid (fun k hk => show (Value.slice A0 m c0).ownBlock = some k ∨ w.heap.size ≤ k from by
        have := HT1.out.size
        rcases hf3 k hk with h | h
        · exact HF1.out k h
        · exact .inr (by omega))
      clear ho3 ht3 hf3 hc0
      dsimp only
      repeat (first | go_skip | go_guarded | go_step)
      go_roundw
      case rel => exact ⟨i + 1, A3, c3, m3, by omega, by go_num, rfl, by rw [HSN.out]; have := HO3.out; simpa [List.append_assoc] using this, HT3.out, HF3.out⟩
      case measure => simp [intOf] <;> omega
    · obtain rfl : i = n := by omega
      repeat (first | go_skip | go_guarded | go_step)
      go_ret
      refine ⟨A', m', c', rfl, ?_, HT1.out, HF1.out⟩
      rw [HRB.out]
      have := HO1.out
      rwa [List.take_of_length_le (by rw [HL.out]; omega)] at this

set_option maxRecDepth 100000 in
set_option maxHeartbeats 4000000 in
theorem appListT_any (B : Nat) (A0 : Option Addr) (c0 m : Nat) (bs : List UInt8) (A : Option Addr) (n c : Nat) (l : List Tm) (w : World) (hown : Ow w B A0 c0 m bs) (hB : B ≤ w.heap.size) (hr : RdT w B A n l) (hm : m + (rowB termB l).length ≤ 1000000000) :
    Calls Try.prog 96 #[.slice A0 m c0, .slice A n c, .func (.func 97) #[] #[]] w fun e w' => Puts B A0 c0 m bs (rowB termB l) w e w' := by
  have HL := Lib.hid (show l.length = n from rdT_len hr)
  have HO := Lib.hid hown
  have HR := Lib.hid hr
  have hrl : (rowB termB l).length = (l.flatMap termB).length + 1 := by unfold rowB; simp
  have hn : n ≤ 1000000000 := by
    have h := flatLen termB (fun x => (var_len (termN x)).1) l
    rw [HL.out] at h
    omega
  have HRB := Lib.hid (show rowB termB l = UInt8.ofNat n :: l.flatMap termB by unfold rowB; rw [HL.out])
  obtain ⟨z, hz⟩ : ∃ z, z = UInt8.ofNat n := ⟨_, rfl⟩
  have e1 : IntKind.u8.wrap (n : Int) = (z.toNat : Int) := by
    rw [hz, IntKind.wrap_u8]
    simp
  rw [← hz] at HRB
  have hl1 := rdOne w z
  have HL1 := Lib.hid hl1
  have HA := Lib.hid (Ow.alloc hown (.cells #[.int .u8 (z.toNat : Int)] 5))
  have HB := Lib.hid (show Below w.heap.size w (w.alloc (.cells #[.int .u8 (z.toNat : Int)] 5)) from (Below.refl _ _).alloc (Nat.le_refl _) _)
  clear hown hr hz hl1
  go_enter Try.func96, Try.ntmps96
  repeat (first
    | (at_builtin; refine app8f _ rfl (.tmp 9) (.tmp 13) rfl B A0 c0 m bs rfl HA.out _ _ 1 1 [z] rfl HL1.out (by omega) (by simp; omega) ?_
       intro A2 c2 w2 ho2 ht2 hf2
       have HO2 := Lib.hid ho2
       have HT2 := Lib.hid ((Turn.ofBelow HB.out).trans ht2)
       have HF2 := Lib.hid (fun k hk => (hf2 k hk).imp id (fun h => show w.heap.size ≤ k by simp at h; omega))
       clear ho2 ht2 hf2)
    | go_skip | go_guarded | go_step)
  go_loopw [0, 17] (fun b' p' wr => ∃ (i : Nat) (A' : Option Addr) (c' m' : Nat), i ≤ n ∧ p' = .int .i64 (i : Int) ∧ b' = .slice A' m' c' ∧ Ow wr B A' c' m' (bs ++ (z :: (l.take i).flatMap termB)) ∧ Turn (fun k => (Value.slice A0 m c0).ownBlock = some k) w wr ∧ (∀ k, (Value.slice A' m' c').ownBlock = some k → (Value.slice A0 m c0).ownBlock = some k ∨ w.heap.size ≤ k)) (fun _ p _ => n - (intOf p).toNat)
  case atStart => exact ⟨0, A2, c2, m + 1, Nat.zero_le _, rfl, rfl, HO2.out, HT2.out, HF2.out⟩
  case round =>
    obtain ⟨i, A', c', m', hi, rfl, rfl, ho, ht, hf⟩ := hrel
    have HO1 := Lib.hid ho
    have HT1 := Lib.hid ht
    have HF1 := Lib.hid hf
    have hb := ht.below (B := B) (fun k _ h => (HO.out.lt k h).1) hB
    have hsr : B ≤ wr.heap.size := Nat.le_trans hB ht.size
    have hm1 := Ow.len ho
    rw [List.length_append, List.length_cons] at hm1
    have hm0 := Ow.len HO.out
    clear ho ht hf
    by_cases hlt : i < n
    · have hci : (i : Int) < (n : Int) := by omega
      have HR1 := Lib.hid (HR.out.below hb)
      obtain ⟨b, o, x, hA, hbb, hx, hc0, hc1⟩ := rdT_at HR1.out hlt
      subst hA
      have hsn := flatTake termB hx
      have hle := flatTake_le termB l (i + 1)
      rw [hsn, List.length_append] at hle
      have HSN := Lib.hid hsn
      clear hsn hb hx
      repeat (first | go_skip | go_guarded | go_step)
      refine (appTerm_any B A' c' m' _ x (wr.alloc (.cells #[.bool x.1, nv x.2] 54)) (Ow.alloc HO1.out _) (by simp; omega) (by omega)).mono ?_
      rintro e w3 hp
      obtain ⟨A3, m3, c3, rfl, ho3, ht3, hf3⟩ := Puts.grow hp
      have HO3 := Lib.hid ho3
      have HT3 := Lib.hid (HT1.out.then_ ht3 (fun k hk h => by
        rcases HF1.out k h with h | h
        · exact h
        · omega))
      have HF3 := Lib.hid (fun k hk => show (Value.slice A0 m c0).ownBlock = some k ∨ w.heap.size ≤ k from by
        have := HT1.out.size
        rcases hf3 k hk with h | h
        · exact HF1.out k h
        · exact .inr (by omega))
      clear hp ho3 ht3 hf3 hc0 hc1
      dsimp only
      repeat (first | go_skip | go_guarded | go_step)
      go_roundw
      case rel => exact ⟨i + 1, A3, c3, m3, by omega, by go_num, rfl, by rw [HSN.out]; have := HO3.out; simpa [List.append_assoc] using this, HT3.out, HF3.out⟩
      case measure => simp [intOf] <;> omega
    · obtain rfl : i = n := by omega
      repeat (first | go_skip | go_guarded | go_step)
      go_ret
      refine ⟨A', m', c', rfl, ?_, HT1.out, HF1.out⟩
      rw [HRB.out]
      have := HO1.out
      rwa [List.take_of_length_le (by rw [HL.out]; omega)] at this

set_option maxRecDepth 100000 in
set_option maxHeartbeats 4000000 in
theorem appFact_any (B : Nat) (A0 : Option Addr) (c0 m : Nat) (bs : List UInt8) (p : UInt32) (A : Option Addr) (n c : Nat) (l : List UInt32) (w : World) (hown : Ow w B A0 c0 m bs) (hB : B ≤ w.heap.size) (hr : RdU w B A n l) (hm : m + (factB (p, l)).length ≤ 1000000000) :
    Calls Try.prog 35 #[.slice A0 m c0, .agg #[nv p, .slice A n c]] w fun e w' => Puts B A0 c0 m bs (factB (p, l)) w e w' := by
  have HE := Lib.hid (show factB (p, l) = u32B p ++ rowB u32B l from rfl)
  rw [HE.out, List.length_append] at hm
  have hm0 := Ow.len hown
  have hnot : (Value.slice A0 m c0).ownBlock ≠ some w.heap.size := fun h => by have := (hown.lt _ h).2; omega
  have hge := fun k h => (hown.lt k h).1
  obtain ⟨U, hU, hH, hb, hO⟩ : ∃ U, U = w.alloc (.cells #[nv p, .slice A n c] 26) ∧ Bk U w.heap.size 26 [nv p, .slice A n c] ∧ Below w.heap.size w U ∧ Ow U B A0 c0 m bs :=
    ⟨_, rfl, Bk.new w _ _, (Below.refl _ _).alloc (Nat.le_refl _) _, Ow.alloc hown _⟩
  have HU := Lib.hid hU
  have HH := Lib.hid hH
  have HB := Lib.hid hb
  have HO := Lib.hid hO
  have HN := Lib.hid hnot
  have HGE := Lib.hid hge
  have HR := Lib.hid (hr.below (hb.mono hB))

  have hsU : B ≤ U.heap.size := Nat.le_trans hB hb.size
  clear hU hH hb hO hr hown hnot hge
  go_enter Try.func35, Try.ntmps35
  go_upto_region 1 with (fail)
  rw [← HU.out]
  clear HU
  generalize hhb : w.heap.size = hb at HH HN HB ⊢
  have HOD := Lib.hid (show Ow U.drew B A0 c0 m bs from HO.out)
  have HRD := Lib.hid (show RdU U.drew B A n l from HR.out)
  refine wp_region_held_drew (S := fun V => Turn (fun k => (Value.slice A0 m c0).ownBlock = some k) U V) (by kernel_rfl) ?_ (fun hHeld => ?_)
  · exact (Turn.refl _ _).drew
  refine wpAnyH_take (i := 0) (oi := ?oid1) (v := ?vd1) ?hod1 (by kernel_rfl) ?hfd1 ?hrd1 ?hQd1 ?hyd1 hHeld ?restd1
  case hod1 => (simp only [List.getElem?_toArray, List.getElem?_cons_succ, List.getElem?_cons_zero]; exact rfl)
  case hfd1 => kernel_rfl
  case hrd1 => kernel_rfl
  case hQd1 => exact fun _ _ _ h => h
  case hyd1 =>
    refine Or.inl ⟨by rfl, ?_⟩
    intro V hSV
    go_simp
    (try with_reducible rfl)
  try simp only [Act.put, List.setIfInBounds_toArray, List.set_cons_zero, List.set_cons_succ]
  refine wpAnyH_take (i := 1) (oi := ?oid2) (v := ?vd2) ?hod2 (by kernel_rfl) ?hfd2 ?hrd2 ?hQd2 ?hyd2 hHeld ?restd2
  case hod2 => (simp only [List.getElem?_toArray, List.getElem?_cons_succ, List.getElem?_cons_zero]; exact rfl)
  case hfd2 => kernel_rfl
  case hrd2 => kernel_rfl
  case hQd2 => exact fun _ _ _ h => h
  case hyd2 =>
    refine Or.inl ⟨by rfl, ?_⟩
    intro V hSV
    go_simp
    (try with_reducible rfl)
  try simp only [Act.put, List.setIfInBounds_toArray, List.set_cons_zero, List.set_cons_succ]
  refine wpAnyH_take (i := 2) (oi := ?oid3) (v := ?vd3) ?hod3 (by kernel_rfl) ?hfd3 ?hrd3 ?hQd3 ?hyd3 hHeld ?restd3
  case hod3 => (simp only [List.getElem?_toArray, List.getElem?_cons_succ, List.getElem?_cons_zero]; exact rfl)
  case hfd3 => kernel_rfl
  case hrd3 => kernel_rfl
  case hQd3 => exact fun _ _ _ h => h
  case hyd3 =>
    refine Or.inl ⟨by rfl, ?_⟩
    intro V hSV
    have q0 := (hSV.bk HH.out HN.out).readT (Below.refl _ _) 0 rfl
    go_simp
    (try with_reducible rfl)
  try simp only [Act.put, List.setIfInBounds_toArray, List.set_cons_zero, List.set_cons_succ]
  refine wpAnyH_take (i := 4) (oi := ?oid4) (v := ?vd4) ?hod4 (by kernel_rfl) ?hfd4 ?hrd4 ?hQd4 ?hyd4 hHeld ?restd4
  case hod4 => (simp only [List.getElem?_toArray, List.getElem?_cons_succ, List.getElem?_cons_zero]; exact rfl)
  case hfd4 => kernel_rfl
  case hrd4 => kernel_rfl
  case hQd4 => exact fun _ _ _ h => h
  case hyd4 =>
    refine Or.inl ⟨by rfl, ?_⟩
    intro V hSV
    go_simp
    (try with_reducible rfl)
  try simp only [Act.put, List.setIfInBounds_toArray, List.set_cons_zero, List.set_cons_succ]
  refine wpAnyH_take (i := 5) (oi := ?oid5) (v := ?vd5) ?hod5 (by kernel_rfl) ?hfd5 ?hrd5 ?hQd5 ?hyd5 hHeld ?restd5
  case hod5 => (simp only [List.getElem?_toArray, List.getElem?_cons_succ, List.getElem?_cons_zero]; exact rfl)
  case hfd5 => kernel_rfl
  case hrd5 => kernel_rfl
  case hQd5 => exact fun _ _ _ h => h
  case hyd5 =>
    refine Or.inl ⟨by rfl, ?_⟩
    intro V hSV
    have q1 := (hSV.bk HH.out HN.out).readT (Below.refl _ _) 1 rfl
    go_simp
    (try with_reducible rfl)
  try simp only [Act.put, List.setIfInBounds_toArray, List.set_cons_zero, List.set_cons_succ]
  refine wpAnyH_ready (rs := [3]) (by kernel_rfl) (by simp) ?_
  refine AllReadyH.cons (o := ?od6) ?hod6 (fun K hK => ?kd6) ?md6
  case hod6 => (simp only [List.getElem?_toArray, List.getElem?_cons_succ, List.getElem?_cons_zero]; exact rfl)
  case kd6 =>
    go_simp
    refine (appNumber_any B A0 c0 m bs p _ HOD.out hsU (by omega)).mono ?_
    rintro e V1 ⟨A1, m1, c1, rfl, ho1, ht1, hf1⟩
    have TT1 := Turn.trans hHeld ht1
    have hb1 : Below B U V1 := Turn.below (B := B) TT1 (fun k _ h => HGE.out k h) hsU
    have hs1 : B ≤ V1.heap.size := Nat.le_trans hsU hb1.size
    have hl1 := Ow.len ho1
    rw [List.length_append] at hl1
    (try dsimp only)
    refine hK.out _ _ ?_ (fun hHeld => ?_)
    · exact Turn.trans hHeld ht1
    clear hK K
    try simp only [Act.put, List.setIfInBounds_toArray, List.set_cons_zero, List.set_cons_succ]
    refine wpAnyH_ready (rs := [6]) (by kernel_rfl) (by simp) ?_
    refine AllReadyH.cons (o := ?od7) ?hod7 (fun K hK => ?kd7) ?md7
    case hod7 => (simp only [List.getElem?_toArray, List.getElem?_cons_succ, List.getElem?_cons_zero]; exact rfl)
    case kd7 =>
      go_simp
      refine (appListU_any B A1 c1 m1 _ A n c l _ ho1 hs1 (HR.out.below hb1) (by omega)).mono ?_
      rintro e V2 ⟨A2', m2', c2', rfl, ho2, ht2, hf2⟩
      have htt := Turn.then_ (G := fun k => (Value.slice A0 m c0).ownBlock = some k) hHeld ht2 (fun k hk h => by
        rcases hf1 k h with h | h
        · exact h
        · exact absurd hk (by have := (show U.heap.size ≤ k from h); omega))
      (try dsimp only)
      refine hK.out _ _ ?_ (fun hHeld => ?_)
      · exact htt
      clear hK K
      try simp only [Act.put, List.setIfInBounds_toArray, List.set_cons_zero, List.set_cons_succ]
      refine wpAnyH_take (i := 7) (oi := ?oid8) (v := ?vd8) ?hod8 (by kernel_rfl) ?hfd8 ?hrd8 ?hQd8 ?hyd8 hHeld ?restd8
      case hod8 => (simp only [List.getElem?_toArray, List.getElem?_cons_succ, List.getElem?_cons_zero]; exact rfl)
      case hfd8 => kernel_rfl
      case hrd8 => kernel_rfl
      case hQd8 => exact fun _ _ _ h => h
      case hyd8 =>
        refine Or.inl ⟨by rfl, ?_⟩
        intro V hSV
        go_simp
        (try with_reducible rfl)
      try simp only [Act.put, List.setIfInBounds_toArray, List.set_cons_zero, List.set_cons_succ]
      have HFin := Lib.hid (show Puts B A0 c0 m bs (factB (p, l)) w (.returned (.slice A2' m2' c2')) V2 from by
        have hwU : Turn (fun k => (Value.slice A0 m c0).ownBlock = some k) w U := Turn.ofBelow (show Below w.heap.size w U by rw [hhb]; exact HB.out)
        rw [HE.out]
        refine Puts.then_ (hwU.trans (show Turn _ U V1 from TT1)) (fun k hk => (hf1 k hk).imp id (fun h => Nat.le_trans hwU.size h)) ⟨A2', m2', c2', rfl, ho2, ht2, hf2⟩)
      refine wpAnyH_done (by kernel_rfl) ?_ _
      repeat (first | go_skip | go_guarded | go_step)
      go_ret
      exact HFin.out
    exact AllReadyH.nil
  exact AllReadyH.nil

set_option maxRecDepth 100000 in
set_option maxHeartbeats 4000000 in
theorem appAtom_any (B : Nat) (A0 : Option Addr) (c0 m : Nat) (bs : List UInt8) (p : UInt32) (A : Option Addr) (n c : Nat) (l : List Tm) (w : World) (hown : Ow w B A0 c0 m bs) (hB : B ≤ w.heap.size) (hr : RdT w B A n l) (hm : m + (atomB (p, l)).length ≤ 1000000000) :
    Calls Try.prog 73 #[.slice A0 m c0, .agg #[nv p, .slice A n c]] w fun e w' => Puts B A0 c0 m bs (atomB (p, l)) w e w' := by
  have HE := Lib.hid (show atomB (p, l) = u32B p ++ rowB termB l from rfl)
  rw [HE.out, List.length_append] at hm
  have hm0 := Ow.len hown
  have hnot : (Value.slice A0 m c0).ownBlock ≠ some w.heap.size := fun h => by have := (hown.lt _ h).2; omega
  have hge := fun k h => (hown.lt k h).1
  obtain ⟨U, hU, hH, hb, hO⟩ : ∃ U, U = w.alloc (.cells #[nv p, .slice A n c] 42) ∧ Bk U w.heap.size 42 [nv p, .slice A n c] ∧ Below w.heap.size w U ∧ Ow U B A0 c0 m bs :=
    ⟨_, rfl, Bk.new w _ _, (Below.refl _ _).alloc (Nat.le_refl _) _, Ow.alloc hown _⟩
  have HU := Lib.hid hU
  have HH := Lib.hid hH
  have HB := Lib.hid hb
  have HO := Lib.hid hO
  have HN := Lib.hid hnot
  have HGE := Lib.hid hge
  have HR := Lib.hid (hr.below (hb.mono hB))

  have hsU : B ≤ U.heap.size := Nat.le_trans hB hb.size
  clear hU hH hb hO hr hown hnot hge
  go_enter Try.func73, Try.ntmps73
  go_upto_region 1 with (fail)
  rw [← HU.out]
  clear HU
  generalize hhb : w.heap.size = hb at HH HN HB ⊢
  have HOD := Lib.hid (show Ow U.drew B A0 c0 m bs from HO.out)
  have HRD := Lib.hid (show RdT U.drew B A n l from HR.out)
  refine wp_region_held_drew (S := fun V => Turn (fun k => (Value.slice A0 m c0).ownBlock = some k) U V) (by kernel_rfl) ?_ (fun hHeld => ?_)
  · exact (Turn.refl _ _).drew
  refine wpAnyH_take (i := 0) (oi := ?oid9) (v := ?vd9) ?hod9 (by kernel_rfl) ?hfd9 ?hrd9 ?hQd9 ?hyd9 hHeld ?restd9
  case hod9 => (simp only [List.getElem?_toArray, List.getElem?_cons_succ, List.getElem?_cons_zero]; exact rfl)
  case hfd9 => kernel_rfl
  case hrd9 => kernel_rfl
  case hQd9 => exact fun _ _ _ h => h
  case hyd9 =>
    refine Or.inl ⟨by rfl, ?_⟩
    intro V hSV
    go_simp
    (try with_reducible rfl)
  try simp only [Act.put, List.setIfInBounds_toArray, List.set_cons_zero, List.set_cons_succ]
  refine wpAnyH_take (i := 1) (oi := ?oid10) (v := ?vd10) ?hod10 (by kernel_rfl) ?hfd10 ?hrd10 ?hQd10 ?hyd10 hHeld ?restd10
  case hod10 => (simp only [List.getElem?_toArray, List.getElem?_cons_succ, List.getElem?_cons_zero]; exact rfl)
  case hfd10 => kernel_rfl
  case hrd10 => kernel_rfl
  case hQd10 => exact fun _ _ _ h => h
  case hyd10 =>
    refine Or.inl ⟨by rfl, ?_⟩
    intro V hSV
    go_simp
    (try with_reducible rfl)
  try simp only [Act.put, List.setIfInBounds_toArray, List.set_cons_zero, List.set_cons_succ]
  refine wpAnyH_take (i := 2) (oi := ?oid11) (v := ?vd11) ?hod11 (by kernel_rfl) ?hfd11 ?hrd11 ?hQd11 ?hyd11 hHeld ?restd11
  case hod11 => (simp only [List.getElem?_toArray, List.getElem?_cons_succ, List.getElem?_cons_zero]; exact rfl)
  case hfd11 => kernel_rfl
  case hrd11 => kernel_rfl
  case hQd11 => exact fun _ _ _ h => h
  case hyd11 =>
    refine Or.inl ⟨by rfl, ?_⟩
    intro V hSV
    have q0 := (hSV.bk HH.out HN.out).readT (Below.refl _ _) 0 rfl
    go_simp
    (try with_reducible rfl)
  try simp only [Act.put, List.setIfInBounds_toArray, List.set_cons_zero, List.set_cons_succ]
  refine wpAnyH_take (i := 4) (oi := ?oid12) (v := ?vd12) ?hod12 (by kernel_rfl) ?hfd12 ?hrd12 ?hQd12 ?hyd12 hHeld ?restd12
  case hod12 => (simp only [List.getElem?_toArray, List.getElem?_cons_succ, List.getElem?_cons_zero]; exact rfl)
  case hfd12 => kernel_rfl
  case hrd12 => kernel_rfl
  case hQd12 => exact fun _ _ _ h => h
  case hyd12 =>
    refine Or.inl ⟨by rfl, ?_⟩
    intro V hSV
    go_simp
    (try with_reducible rfl)
  try simp only [Act.put, List.setIfInBounds_toArray, List.set_cons_zero, List.set_cons_succ]
  refine wpAnyH_take (i := 5) (oi := ?oid13) (v := ?vd13) ?hod13 (by kernel_rfl) ?hfd13 ?hrd13 ?hQd13 ?hyd13 hHeld ?restd13
  case hod13 => (simp only [List.getElem?_toArray, List.getElem?_cons_succ, List.getElem?_cons_zero]; exact rfl)
  case hfd13 => kernel_rfl
  case hrd13 => kernel_rfl
  case hQd13 => exact fun _ _ _ h => h
  case hyd13 =>
    refine Or.inl ⟨by rfl, ?_⟩
    intro V hSV
    have q1 := (hSV.bk HH.out HN.out).readT (Below.refl _ _) 1 rfl
    go_simp
    (try with_reducible rfl)
  try simp only [Act.put, List.setIfInBounds_toArray, List.set_cons_zero, List.set_cons_succ]
  refine wpAnyH_ready (rs := [3]) (by kernel_rfl) (by simp) ?_
  refine AllReadyH.cons (o := ?od14) ?hod14 (fun K hK => ?kd14) ?md14
  case hod14 => (simp only [List.getElem?_toArray, List.getElem?_cons_succ, List.getElem?_cons_zero]; exact rfl)
  case kd14 =>
    go_simp
    refine (appNumber_any B A0 c0 m bs p _ HOD.out hsU (by omega)).mono ?_
    rintro e V1 ⟨A1, m1, c1, rfl, ho1, ht1, hf1⟩
    have TT1 := Turn.trans hHeld ht1
    have hb1 : Below B U V1 := Turn.below (B := B) TT1 (fun k _ h => HGE.out k h) hsU
    have hs1 : B ≤ V1.heap.size := Nat.le_trans hsU hb1.size
    have hl1 := Ow.len ho1
    rw [List.length_append] at hl1
    (try dsimp only)
    refine hK.out _ _ ?_ (fun hHeld => ?_)
    · exact Turn.trans hHeld ht1
    clear hK K
    try simp only [Act.put, List.setIfInBounds_toArray, List.set_cons_zero, List.set_cons_succ]
    refine wpAnyH_ready (rs := [6]) (by kernel_rfl) (by simp) ?_
    refine AllReadyH.cons (o := ?od15) ?hod15 (fun K hK => ?kd15) ?md15
    case hod15 => (simp only [List.getElem?_toArray, List.getElem?_cons_succ, List.getElem?_cons_zero]; exact rfl)
    case kd15 =>
      go_simp
      refine (appListT_any B A1 c1 m1 _ A n c l _ ho1 hs1 (HR.out.below hb1) (by omega)).mono ?_
      rintro e V2 ⟨A2', m2', c2', rfl, ho2, ht2, hf2⟩
      have htt := Turn.then_ (G := fun k => (Value.slice A0 m c0).ownBlock = some k) hHeld ht2 (fun k hk h => by
        rcases hf1 k h with h | h
        · exact h
        · exact absurd hk (by have := (show U.heap.size ≤ k from h); omega))
      (try dsimp only)
      refine hK.out _ _ ?_ (fun hHeld => ?_)
      · exact htt
      clear hK K
      try simp only [Act.put, List.setIfInBounds_toArray, List.set_cons_zero, List.set_cons_succ]
      refine wpAnyH_take (i := 7) (oi := ?oid16) (v := ?vd16) ?hod16 (by kernel_rfl) ?hfd16 ?hrd16 ?hQd16 ?hyd16 hHeld ?restd16
      case hod16 => (simp only [List.getElem?_toArray, List.getElem?_cons_succ, List.getElem?_cons_zero]; exact rfl)
      case hfd16 => kernel_rfl
      case hrd16 => kernel_rfl
      case hQd16 => exact fun _ _ _ h => h
      case hyd16 =>
        refine Or.inl ⟨by rfl, ?_⟩
        intro V hSV
        go_simp
        (try with_reducible rfl)
      try simp only [Act.put, List.setIfInBounds_toArray, List.set_cons_zero, List.set_cons_succ]
      have HFin := Lib.hid (show Puts B A0 c0 m bs (atomB (p, l)) w (.returned (.slice A2' m2' c2')) V2 from by
        have hwU : Turn (fun k => (Value.slice A0 m c0).ownBlock = some k) w U := Turn.ofBelow (show Below w.heap.size w U by rw [hhb]; exact HB.out)
        rw [HE.out]
        refine Puts.then_ (hwU.trans (show Turn _ U V1 from TT1)) (fun k hk => (hf1 k hk).imp id (fun h => Nat.le_trans hwU.size h)) ⟨A2', m2', c2', rfl, ho2, ht2, hf2⟩)
      refine wpAnyH_done (by kernel_rfl) ?_ _
      repeat (first | go_skip | go_guarded | go_step)
      go_ret
      exact HFin.out
    exact AllReadyH.nil
  exact AllReadyH.nil
end Go.Proofs.Ytcoafgnbmgndeaa
