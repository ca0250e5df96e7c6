/- Layer 6 (wire), the document's: bytes of clauses and of rules. -/
import Derived.Test.YtcoafgnbmgndeaaWrH
set_option linter.unusedVariables false
set_option linter.unusedSimpArgs false
namespace Go.Proofs.Ytcoafgnbmgndeaa
open Go Go.RowKit

def coC (z : Co × SlA) : List Value := [.bool z.1.1, .bool z.1.2.1, .bool z.1.2.2.1.1, nv z.1.2.2.1.2, nv z.1.2.2.2.1, z.2.val]
/-- A slice of a rule's conditions that is read: each one's slice of terms, and what it says. -/
structure RdK (w : World) (B : Nat) (A : Option Addr) (n : Nat) (R : List SlA) (L : List Co) : Prop where
  lenR : R.length = n
  lenL : L.length = n
  top : Rd w B 6 A n ((L.zip R).flatMap coC)
  row : ∀ (i : Nat) (r : SlA) (x : Co), R[i]? = some r → L[i]? = some x → RdT w B r.1 r.2.1 x.2.2.2.2
section
variable {w w' : World} {B n : Nat} {A : Option Addr} {R : List SlA} {L : List Co}
theorem RdK.below (h : RdK w B A n R L) (hb : Below B w w') : RdK w' B A n R L :=
  ⟨h.lenR, h.lenL, h.top.below hb, fun i r x h1 h2 => (h.row i r x h1 h2).below hb⟩
theorem RdK.more {B' : Nat} (h : RdK w B A n R L) (hB : B ≤ B') : RdK w B' A n R L :=
  ⟨h.lenR, h.lenL, h.top.more hB, fun i r x h1 h2 => (h.row i r x h1 h2).more hB⟩
theorem RdK.at_ (h : RdK w B A n R L) {i : Nat} (hi : i < n) :
    ∃ b o g s x p l Ai ni ci, A = some ⟨b, o, none⟩ ∧ b < B ∧ L[i]? = some (g, s, x, p, l) ∧ w.cell? ⟨b, o + i * 6, none⟩ = some (.bool g) ∧ w.cell? ⟨b, o + i * 6 + 1, none⟩ = some (.bool s) ∧ w.cell? ⟨b, o + i * 6 + 2, none⟩ = some (.bool x.1) ∧ w.cell? ⟨b, o + i * 6 + 3, none⟩ = some (nv x.2) ∧ w.cell? ⟨b, o + i * 6 + 4, none⟩ = some (nv p) ∧ w.cell? ⟨b, o + i * 6 + 5, none⟩ = some (.slice Ai ni ci) ∧ RdT w B Ai ni l := by
  obtain ⟨b, o, e, hb, hc⟩ := h.top.2 (by omega)
  have h1 : R[i]? = some (R[i]'(by rw [h.lenR]; exact hi)) := List.getElem?_eq_getElem _
  have h2 : L[i]? = some (L[i]'(by rw [h.lenL]; exact hi)) := List.getElem?_eq_getElem _
  generalize R[i]'(by rw [h.lenR]; exact hi) = r at h1
  generalize L[i]'(by rw [h.lenL]; exact hi) = y at h2
  obtain ⟨Ai, ni, ci⟩ := r
  obtain ⟨g, s, x, p, l⟩ := y
  have hz : (L.zip R)[i]? = some ((g, s, x, p, l), (Ai, ni, ci)) := by
    rw [List.getElem?_zip_eq_some]
    exact ⟨h2, h1⟩
  have hl : ∀ x : Co × SlA, (coC x).length = 6 := fun _ => rfl
  have f0 := flat_at coC 6 hl hz 0 (by omega)
  have f1 := flat_at coC 6 hl hz 1 (by omega)
  have f2 := flat_at coC 6 hl hz 2 (by omega)
  have f3 := flat_at coC 6 hl hz 3 (by omega)
  have f4 := flat_at coC 6 hl hz 4 (by omega)
  have f5 := flat_at coC 6 hl hz 5 (by omega)
  exact ⟨b, o, g, s, x, p, l, Ai, ni, ci, e, hb, h2, hc _ _ f0, hc _ _ f1, hc _ _ f2, hc _ _ f3, hc _ _ f4, hc _ _ f5, h.row i _ _ h1 h2⟩
end
theorem bitB_one (b : Bool) : ∃ zb : UInt8, (bitN b : Int) = (zb.toNat : Int) ∧ bitB b = [zb] := by
  cases b
  · exact ⟨0, rfl, rfl⟩
  · exact ⟨1, rfl, rfl⟩
theorem atomB_lenG (p : UInt32) (l : List Tm) {n : Nat} (h : l.length ≤ n) : (atomB (p, l)).length ≤ 6 + 5 * n := by
  have h1 := u32B_len p
  have h2 := flat_len termB 5 l (fun y _ => (termB_len y).2)
  unfold atomB rowB
  simp only [List.length_append, List.length_cons]
  omega
theorem sayB_lenG (s : Bool) (x : Tm) (p : UInt32) (l : List Tm) {n : Nat} (h : l.length ≤ n) : (sayB (s, x, (p, l))).length ≤ 12 + 5 * n := by
  have h1 := atomB_lenG p l h
  have h2 := termB_len x
  unfold sayB bitB
  split <;> simp only [List.length_append, List.length_cons, List.length_nil] <;> omega

set_option maxRecDepth 100000 in
set_option maxHeartbeats 4000000 in
theorem rClauseB_any (p : UInt32) (A : Option Addr) (n c : Nat) (l : List Tm) (A1 : Option Addr) (n1 c1 : Nat) (R : List SlA) (L : List Li) (w : World) (h : RdT w w.heap.size A n l) (h1 : RdL w w.heap.size A1 n1 R L) (hn : n ≤ 1000) (hn1 : n1 ≤ 1000) (hk : ∀ x ∈ L, x.2.2.length ≤ 1000) :
    Calls Try.prog 21 #[.agg #[nv p, .slice A n c, .slice A1 n1 c1]] w fun e w' => ∃ A' m c', e = .returned (.slice A' m c') ∧ Ow w' w.heap.size A' c' m (clauseB ((p, l), L)) ∧ Below w.heap.size w w' := by
  have hl : l.length = n := rdT_len h
  have hl1 := h1.lenL
  obtain ⟨U, hU, hH, hbU⟩ : ∃ U, U = w.alloc (.cells #[nv p, .slice A n c, .slice A1 n1 c1] 45) ∧ Bk U w.heap.size 45 [nv p, .slice A n c, .slice A1 n1 c1] ∧ Below w.heap.size w U :=
    ⟨_, rfl, Bk.new w _ _, (Below.refl _ _).alloc (Nat.le_refl _) _⟩
  have HU := Lib.hid hU
  have HH := Lib.hid hH
  have HB := Lib.hid hbU
  have HR := Lib.hid ((h.below hbU).more hbU.size)
  have HR1 := Lib.hid ((h1.below hbU).more hbU.size)
  have HL := Lib.hid hl
  have HL1 := Lib.hid hl1
  have HK := Lib.hid hk
  obtain ⟨z, hz⟩ : ∃ z, z = UInt8.ofNat n1 := ⟨_, rfl⟩
  have e1 : IntKind.u8.wrap (n1 : Int) = (z.toNat : Int) := by
    rw [hz, IntKind.wrap_u8]
    simp
  have HZ := Lib.hid hz
  clear hU hH hbU hz h h1 hl hl1 hk
  go_enter Try.func21, Try.ntmps21
  go_upto_region 1 with (fail)
  rw [← HU.out]
  clear HU
  generalize hhb : w.heap.size = hb at HH HB ⊢
  rw [← hhb] at HB
  have hbu := HH.out.lt
  refine wp_region_held_drew (S := fun V => Below U.heap.size U V) (by kernel_rfl) ?_ (fun hHeld => ?_)
  · exact (Below.refl U.heap.size U).drew
  refine wpAnyH_take (i := 0) (oi := ?oid1) (v := ?vd1) ?hod1 (by kernel_rfl) ?hfd1 ?hrd1 ?hQd1 ?hyd1 hHeld ?restd1
  case hod1 => (simp only [List.getElem?_toArray, List.getElem?_cons_succ, List.getElem?_cons_zero]; exact rfl)
  case hfd1 => kernel_rfl
  case hrd1 => kernel_rfl
  case hQd1 => exact fun _ _ _ h => h
  case hyd1 =>
    refine Or.inl ⟨by rfl, ?_⟩
    intro V hSV
    go_simp
    (try with_reducible rfl)
  try simp only [Act.put, List.setIfInBounds_toArray, List.set_cons_zero, List.set_cons_succ]
  refine wpAnyH_take (i := 1) (oi := ?oid2) (v := ?vd2) ?hod2 (by kernel_rfl) ?hfd2 ?hrd2 ?hQd2 ?hyd2 hHeld ?restd2
  case hod2 => (simp only [List.getElem?_toArray, List.getElem?_cons_succ, List.getElem?_cons_zero]; exact rfl)
  case hfd2 => kernel_rfl
  case hrd2 => kernel_rfl
  case hQd2 => exact fun _ _ _ h => h
  case hyd2 =>
    refine Or.inl ⟨by rfl, ?_⟩
    intro V hSV
    have q0 := HH.out.readT hSV 0 rfl
    have q1 := HH.out.readT hSV 1 rfl
    go_simp
    (try with_reducible rfl)
  try simp only [Act.put, List.setIfInBounds_toArray, List.set_cons_zero, List.set_cons_succ]
  refine wpAnyH_take (i := 3) (oi := ?oid3) (v := ?vd3) ?hod3 (by kernel_rfl) ?hfd3 ?hrd3 ?hQd3 ?hyd3 hHeld ?restd3
  case hod3 => (simp only [List.getElem?_toArray, List.getElem?_cons_succ, List.getElem?_cons_zero]; exact rfl)
  case hfd3 => kernel_rfl
  case hrd3 => kernel_rfl
  case hQd3 => exact fun _ _ _ h => h
  case hyd3 =>
    refine Or.inl ⟨by rfl, ?_⟩
    intro V hSV
    go_simp
    (try with_reducible rfl)
  try simp only [Act.put, List.setIfInBounds_toArray, List.set_cons_zero, List.set_cons_succ]
  refine wpAnyH_take (i := 4) (oi := ?oid4) (v := ?vd4) ?hod4 (by kernel_rfl) ?hfd4 ?hrd4 ?hQd4 ?hyd4 hHeld ?restd4
  case hod4 => (simp only [List.getElem?_toArray, List.getElem?_cons_succ, List.getElem?_cons_zero]; exact rfl)
  case hfd4 => kernel_rfl
  case hrd4 => kernel_rfl
  case hQd4 => exact fun _ _ _ h => h
  case hyd4 =>
    refine Or.inl ⟨by rfl, ?_⟩
    intro V hSV
    have q := HH.out.readT hSV 2 rfl
    go_simp
    (try with_reducible rfl)
  try simp only [Act.put, List.setIfInBounds_toArray, List.set_cons_zero, List.set_cons_succ]
  refine wpAnyH_take (i := 5) (oi := ?oid5) (v := ?vd5) ?hod5 (by kernel_rfl) ?hfd5 ?hrd5 ?hQd5 ?hyd5 hHeld ?restd5
  case hod5 => (simp only [List.getElem?_toArray, List.getElem?_cons_succ, List.getElem?_cons_zero]; exact rfl)
  case hfd5 => kernel_rfl
  case hrd5 => kernel_rfl
  case hQd5 => exact fun _ _ _ h => h
  case hyd5 =>
    refine Or.inl ⟨by rfl, ?_⟩
    intro V hSV
    go_simp
    (try with_reducible rfl)
  try simp only [Act.put, List.setIfInBounds_toArray, List.set_cons_zero, List.set_cons_succ]
  refine wpAnyH_take (i := 6) (oi := ?oid6) (v := ?vd6) ?hod6 (by kernel_rfl) ?hfd6 ?hrd6 ?hQd6 ?hyd6 hHeld ?restd6
  case hod6 => (simp only [List.getElem?_toArray, List.getElem?_cons_succ, List.getElem?_cons_zero]; exact rfl)
  case hfd6 => kernel_rfl
  case hrd6 => kernel_rfl
  case hQd6 => exact fun _ _ _ h => h
  case hyd6 =>
    refine Or.inl ⟨by rfl, ?_⟩
    intro V hSV
    go_simp
    (try with_reducible rfl)
  try simp only [Act.put, List.setIfInBounds_toArray, List.set_cons_zero, List.set_cons_succ]
  refine wpAnyH_ready (rs := [2, 7]) (by kernel_rfl) (by simp) ?_
  refine AllReadyH.cons (o := ?od7) ?hod7 (fun K hK => ?kd7) ?md7
  case hod7 => (simp only [List.getElem?_toArray, List.getElem?_cons_succ, List.getElem?_cons_zero]; exact rfl)
  case kd7 =>
    go_simp
    refine (rAtomB_any p A n c l _ ((HR.out.below (show Below U.heap.size U _ from hHeld)).more (Below.size (show Below U.heap.size U _ from hHeld))) (by omega)).mono ?_
    rintro e V3 ⟨A3, m3, c3, rfl, ho3, hb3⟩
    have ho3 := ownLower ho3 (show U.heap.size ≤ _ from Below.size (show Below U.heap.size U _ from hHeld))
    (try dsimp only)
    refine hK.out _ _ ?_ (fun hHeld => ?_)
    · exact Below.trans (show Below U.heap.size U _ from hHeld) (hb3.mono (Below.size (show Below U.heap.size U _ from hHeld)))
    clear hK K
    try simp only [Act.put, List.setIfInBounds_toArray, List.set_cons_zero, List.set_cons_succ]
    refine wpAnyH_ready (rs := [7]) (by kernel_rfl) (by simp) ?_
    refine AllReadyH.cons (o := ?od8) ?hod8 (fun K hK => ?kd8) ?md8
    case hod8 => (simp only [List.getElem?_toArray, List.getElem?_cons_succ, List.getElem?_cons_zero]; exact rfl)
    case kd8 =>
      refine anyd_lit8 (by rfl) (.tmp 11) z (by rfl) (by rfl) ?_
      intro V8 q8 hr8 hb8
      have ho3 := ownBelow ho3 hb8 (Nat.le_refl _)
      refine hK.out _ _ ?_ (fun hHeld => ?_)
      · exact Below.trans (show Below U.heap.size U _ from hHeld) (hb8.mono (Below.size (show Below U.heap.size U _ from hHeld)))
      clear hK K
      try simp only [Act.put, List.setIfInBounds_toArray, List.set_cons_zero, List.set_cons_succ]
      refine wpAnyH_ready (rs := [8]) (by kernel_rfl) (by simp) ?_
      refine AllReadyH.cons (o := ?od9) ?hod9 (fun K hK => ?kd9) ?md9
      case hod9 => (simp only [List.getElem?_toArray, List.getElem?_cons_succ, List.getElem?_cons_zero]; exact rfl)
      case kd9 =>
        refine anyd_app8h (by rfl) (.tmp 7) (.tmp 12) (by rfl) U.heap.size A3 c3 m3 _ (by rfl) ho3 _ _ 1 1 [z] (by rfl) hr8 (by have h1 := atomB_lenG p l (Nat.le_of_eq HL.out); have h2 := Ow.len ho3; omega) (Below.size (show Below U.heap.size U _ from hHeld)) ?_
        intro A9 c9 V9 ho9 hb9
        refine hK.out _ _ ?_ (fun hHeld => ?_)
        · exact Below.trans (show Below U.heap.size U _ from hHeld) hb9
        clear hK K
        try simp only [Act.put, List.setIfInBounds_toArray, List.set_cons_zero, List.set_cons_succ]
        refine wpAnyH_take (i := 9) (oi := ?oid10) (v := ?vd10) ?hod10 (by kernel_rfl) ?hfd10 ?hrd10 ?hQd10 ?hyd10 hHeld ?restd10
        case hod10 => (simp only [List.getElem?_toArray, List.getElem?_cons_succ, List.getElem?_cons_zero]; exact rfl)
        case hfd10 => kernel_rfl
        case hrd10 => kernel_rfl
        case hQd10 => exact fun _ _ _ h => h
        case hyd10 =>
          refine Or.inl ⟨by rfl, ?_⟩
          intro V hSV
          go_simp
          (try with_reducible rfl)
        try simp only [Act.put, List.setIfInBounds_toArray, List.set_cons_zero, List.set_cons_succ]
        refine wpAnyH_done (by kernel_rfl) ?_ _
        have hv : Below U.heap.size U V9 := hHeld
        clear hHeld hr8 ho3 hb9
        try clear hb3
        try clear hb8
        have hm3 : m3 + 1 ≤ 10000 := by have h1 := atomB_lenG p l (Nat.le_of_eq HL.out); have h2 := Ow.len ho9; simp only [List.length_append, List.length_cons, List.length_nil] at h2; omega
        have HO9 := Lib.hid ho9
        have HV := Lib.hid hv
        clear ho9 hv
        repeat (first | go_skip | go_guarded | go_step)
        go_loopw [3, 4] (fun b' i' wr => ∃ (i : Nat) (A' : Option Addr) (m c' : Nat), i ≤ n1 ∧ b' = .slice A' m c' ∧ i' = .int .i64 (i : Int) ∧ Ow wr U.heap.size A' c' m (atomB (p, l) ++ [z] ++ (L.take i).flatMap litB) ∧ m ≤ 10000 + 10000 * i ∧ Below U.heap.size U wr) (fun _ i _ => n1 - (intOf i).toNat)
        case atStart => exact ⟨0, A9, m3 + 1, c9, Nat.zero_le _, rfl, rfl, by simpa using HO9.out, by omega, HV.out⟩
        case round =>
          obtain ⟨i, A', m, c', hi, rfl, rfl, ho, hmi, hbr⟩ := hrel
          have HO := Lib.hid ho
          have HBR := Lib.hid hbr
          have hus := hbr.size
          have k1 := HH.out.readT hbr 2 rfl
          by_cases hlt : i < n1
          · have hci : (i : Int) < (n1 : Int) := by omega
            obtain ⟨b, o, g, q, l2, Ai, ni, ci, hA, hbb, hx, hc0, hc1, hc2, hrow⟩ := HR1.out.at_ hlt
            have hil : i < L.length := by rw [HL1.out]; exact hlt
            have hxe : L[i] = (g, q, l2) := by rw [List.getElem?_eq_getElem hil] at hx; exact Option.some.inj hx
            have hni : ni ≤ 1000 := by have h3 := HK.out _ (List.mem_of_getElem? hx); have h4 := rdT_len hrow; simp only at h3; omega
            have hll := rdT_len hrow
            subst hA
            obtain ⟨zb, hzb, hbit⟩ := bitB_one g
            have htk : (L.take (i + 1)).flatMap litB = (L.take i).flatMap litB ++ ([zb] ++ atomB (q, l2)) := by
              rw [List.take_succ_eq_append_getElem hil, List.flatMap_append, hxe, ← hbit]
              simp [litB]
            have HTK := Lib.hid htk
            clear ho hbr hx htk hil hxe hbit
            repeat (first | go_skip | go_guarded | go_step)
            refine wp_region_held_drew (S := fun V => Below U.heap.size U V) (by kernel_rfl) ?_ (fun hHeld => ?_)
            · exact HBR.out.drew
            refine wpAnyH_take (i := 0) (oi := ?oid15) (v := ?vd15) ?hod15 (by kernel_rfl) ?hfd15 ?hrd15 ?hQd15 ?hyd15 hHeld ?restd15
            case hod15 => (simp only [List.getElem?_toArray, List.getElem?_cons_succ, List.getElem?_cons_zero]; exact rfl)
            case hfd15 => kernel_rfl
            case hrd15 => kernel_rfl
            case hQd15 => exact fun _ _ _ h => h
            case hyd15 =>
              refine Or.inl ⟨by rfl, ?_⟩
              intro V hSV
              go_simp
              (try with_reducible rfl)
            try simp only [Act.put, List.setIfInBounds_toArray, List.set_cons_zero, List.set_cons_succ]
            refine wpAnyH_take (i := 1) (oi := ?oid16) (v := ?vd16) ?hod16 (by kernel_rfl) ?hfd16 ?hrd16 ?hQd16 ?hyd16 hHeld ?restd16
            case hod16 => (simp only [List.getElem?_toArray, List.getElem?_cons_succ, List.getElem?_cons_zero]; exact rfl)
            case hfd16 => kernel_rfl
            case hrd16 => kernel_rfl
            case hQd16 => exact fun _ _ _ h => h
            case hyd16 =>
              refine Or.inl ⟨by rfl, ?_⟩
              intro V hSV
              go_simp
              (try with_reducible rfl)
            try simp only [Act.put, List.setIfInBounds_toArray, List.set_cons_zero, List.set_cons_succ]
            refine wpAnyH_take (i := 2) (oi := ?oid17) (v := ?vd17) ?hod17 (by kernel_rfl) ?hfd17 ?hrd17 ?hQd17 ?hyd17 hHeld ?restd17
            case hod17 => (simp only [List.getElem?_toArray, List.getElem?_cons_succ, List.getElem?_cons_zero]; exact rfl)
            case hfd17 => kernel_rfl
            case hrd17 => kernel_rfl
            case hQd17 => exact fun _ _ _ h => h
            case hyd17 =>
              refine Or.inl ⟨by rfl, ?_⟩
              intro V hSV
              have q := HH.out.readT hSV 2 rfl
              go_simp
              (try with_reducible rfl)
            try simp only [Act.put, List.setIfInBounds_toArray, List.set_cons_zero, List.set_cons_succ]
            refine wpAnyH_take (i := 3) (oi := ?oid18) (v := ?vd18) ?hod18 (by kernel_rfl) ?hfd18 ?hrd18 ?hQd18 ?hyd18 hHeld ?restd18
            case hod18 => (simp only [List.getElem?_toArray, List.getElem?_cons_succ, List.getElem?_cons_zero]; exact rfl)
            case hfd18 => kernel_rfl
            case hrd18 => kernel_rfl
            case hQd18 => exact fun _ _ _ h => h
            case hyd18 =>
              refine Or.inl ⟨by rfl, ?_⟩
              intro V hSV
              go_simp
              (try with_reducible rfl)
            try simp only [Act.put, List.setIfInBounds_toArray, List.set_cons_zero, List.set_cons_succ]
            refine wpAnyH_take (i := 4) (oi := ?oid19) (v := ?vd19) ?hod19 (by kernel_rfl) ?hfd19 ?hrd19 ?hQd19 ?hyd19 hHeld ?restd19
            case hod19 => (simp only [List.getElem?_toArray, List.getElem?_cons_succ, List.getElem?_cons_zero]; exact rfl)
            case hfd19 => kernel_rfl
            case hrd19 => kernel_rfl
            case hQd19 => exact fun _ _ _ h => h
            case hyd19 =>
              refine Or.inl ⟨by rfl, ?_⟩
              intro V hSV
              go_simp
              (try with_reducible rfl)
            try simp only [Act.put, List.setIfInBounds_toArray, List.set_cons_zero, List.set_cons_succ]
            refine wpAnyH_take (i := 5) (oi := ?oid20) (v := ?vd20) ?hod20 (by kernel_rfl) ?hfd20 ?hrd20 ?hQd20 ?hyd20 hHeld ?restd20
            case hod20 => (simp only [List.getElem?_toArray, List.getElem?_cons_succ, List.getElem?_cons_zero]; exact rfl)
            case hfd20 => kernel_rfl
            case hrd20 => kernel_rfl
            case hQd20 => exact fun _ _ _ h => h
            case hyd20 =>
              refine Or.inl ⟨by rfl, ?_⟩
              intro V hSV
              go_simp
              (try with_reducible rfl)
            try simp only [Act.put, List.setIfInBounds_toArray, List.set_cons_zero, List.set_cons_succ]
            refine wpAnyH_take (i := 6) (oi := ?oid21) (v := ?vd21) ?hod21 (by kernel_rfl) ?hfd21 ?hrd21 ?hQd21 ?hyd21 hHeld ?restd21
            case hod21 => (simp only [List.getElem?_toArray, List.getElem?_cons_succ, List.getElem?_cons_zero]; exact rfl)
            case hfd21 => kernel_rfl
            case hrd21 => kernel_rfl
            case hQd21 => exact fun _ _ _ h => h
            case hyd21 =>
              refine Or.inl ⟨by rfl, ?_⟩
              intro V hSV
              have q := (Below.cell hSV (p := ⟨b, _, none⟩) hbb).trans hc0
              go_simp
              (try with_reducible rfl)
            try simp only [Act.put, List.setIfInBounds_toArray, List.set_cons_zero, List.set_cons_succ]
            refine wpAnyH_take (i := 10) (oi := ?oid22) (v := ?vd22) ?hod22 (by kernel_rfl) ?hfd22 ?hrd22 ?hQd22 ?hyd22 hHeld ?restd22
            case hod22 => (simp only [List.getElem?_toArray, List.getElem?_cons_succ, List.getElem?_cons_zero]; exact rfl)
            case hfd22 => kernel_rfl
            case hrd22 => kernel_rfl
            case hQd22 => exact fun _ _ _ h => h
            case hyd22 =>
              refine Or.inl ⟨by rfl, ?_⟩
              intro V hSV
              go_simp
              (try with_reducible rfl)
            try simp only [Act.put, List.setIfInBounds_toArray, List.set_cons_zero, List.set_cons_succ]
            refine wpAnyH_take (i := 11) (oi := ?oid23) (v := ?vd23) ?hod23 (by kernel_rfl) ?hfd23 ?hrd23 ?hQd23 ?hyd23 hHeld ?restd23
            case hod23 => (simp only [List.getElem?_toArray, List.getElem?_cons_succ, List.getElem?_cons_zero]; exact rfl)
            case hfd23 => kernel_rfl
            case hrd23 => kernel_rfl
            case hQd23 => exact fun _ _ _ h => h
            case hyd23 =>
              refine Or.inl ⟨by rfl, ?_⟩
              intro V hSV
              have q := HH.out.readT hSV 2 rfl
              go_simp
              (try with_reducible rfl)
            try simp only [Act.put, List.setIfInBounds_toArray, List.set_cons_zero, List.set_cons_succ]
            refine wpAnyH_take (i := 12) (oi := ?oid24) (v := ?vd24) ?hod24 (by kernel_rfl) ?hfd24 ?hrd24 ?hQd24 ?hyd24 hHeld ?restd24
            case hod24 => (simp only [List.getElem?_toArray, List.getElem?_cons_succ, List.getElem?_cons_zero]; exact rfl)
            case hfd24 => kernel_rfl
            case hrd24 => kernel_rfl
            case hQd24 => exact fun _ _ _ h => h
            case hyd24 =>
              refine Or.inl ⟨by rfl, ?_⟩
              intro V hSV
              go_simp
              (try with_reducible rfl)
            try simp only [Act.put, List.setIfInBounds_toArray, List.set_cons_zero, List.set_cons_succ]
            refine wpAnyH_take (i := 13) (oi := ?oid25) (v := ?vd25) ?hod25 (by kernel_rfl) ?hfd25 ?hrd25 ?hQd25 ?hyd25 hHeld ?restd25
            case hod25 => (simp only [List.getElem?_toArray, List.getElem?_cons_succ, List.getElem?_cons_zero]; exact rfl)
            case hfd25 => kernel_rfl
            case hrd25 => kernel_rfl
            case hQd25 => exact fun _ _ _ h => h
            case hyd25 =>
              refine Or.inl ⟨by rfl, ?_⟩
              intro V hSV
              go_simp
              (try with_reducible rfl)
            try simp only [Act.put, List.setIfInBounds_toArray, List.set_cons_zero, List.set_cons_succ]
            refine wpAnyH_take (i := 14) (oi := ?oid26) (v := ?vd26) ?hod26 (by kernel_rfl) ?hfd26 ?hrd26 ?hQd26 ?hyd26 hHeld ?restd26
            case hod26 => (simp only [List.getElem?_toArray, List.getElem?_cons_succ, List.getElem?_cons_zero]; exact rfl)
            case hfd26 => kernel_rfl
            case hrd26 => kernel_rfl
            case hQd26 => exact fun _ _ _ h => h
            case hyd26 =>
              refine Or.inl ⟨by rfl, ?_⟩
              intro V hSV
              go_simp
              (try with_reducible rfl)
            try simp only [Act.put, List.setIfInBounds_toArray, List.set_cons_zero, List.set_cons_succ]
            refine wpAnyH_take (i := 15) (oi := ?oid27) (v := ?vd27) ?hod27 (by kernel_rfl) ?hfd27 ?hrd27 ?hQd27 ?hyd27 hHeld ?restd27
            case hod27 => (simp only [List.getElem?_toArray, List.getElem?_cons_succ, List.getElem?_cons_zero]; exact rfl)
            case hfd27 => kernel_rfl
            case hrd27 => kernel_rfl
            case hQd27 => exact fun _ _ _ h => h
            case hyd27 =>
              refine Or.inl ⟨by rfl, ?_⟩
              intro V hSV
              have q1 := (Below.cell hSV (p := ⟨b, _, none⟩) hbb).trans hc1
              have q2 := (Below.cell hSV (p := ⟨b, _, none⟩) hbb).trans hc2
              go_simp
              (try with_reducible rfl)
            try simp only [Act.put, List.setIfInBounds_toArray, List.set_cons_zero, List.set_cons_succ]
            refine wpAnyH_ready (rs := [7]) (by kernel_rfl) (by simp) ?_
            refine AllReadyH.cons (o := ?od28) ?hod28 (fun K hK => ?kd28) ?md28
            case hod28 => (simp only [List.getElem?_toArray, List.getElem?_cons_succ, List.getElem?_cons_zero]; exact rfl)
            case kd28 =>
              go_simp
              refine (rBit_any g _).mono ?_
              rintro e w7 ⟨rfl, rfl⟩
              (try dsimp only)
              rw [hzb]
              refine hK.out _ _ ?_ (fun hHeld => ?_)
              · exact (show Below U.heap.size U _ from hHeld)
              clear hK K
              try simp only [Act.put, List.setIfInBounds_toArray, List.set_cons_zero, List.set_cons_succ]
              refine wpAnyH_ready (rs := [8]) (by kernel_rfl) (by simp) ?_
              refine AllReadyH.cons (o := ?od29) ?hod29 (fun K hK => ?kd29) ?md29
              case hod29 => (simp only [List.getElem?_toArray, List.getElem?_cons_succ, List.getElem?_cons_zero]; exact rfl)
              case kd29 =>
                refine anyd_lit8 (by rfl) (.tmp 28) zb (by rfl) (by rfl) ?_
                intro V8 q8 hr8 hb8
                have ho8 := ownBelow (World.ownsRow.drew HO.out) hb8 (Nat.le_refl _)
                refine hK.out _ _ ?_ (fun hHeld => ?_)
                · exact Below.trans (show Below U.heap.size U _ from hHeld) (hb8.mono (Below.size (show Below U.heap.size U _ from hHeld)))
                clear hK K
                try simp only [Act.put, List.setIfInBounds_toArray, List.set_cons_zero, List.set_cons_succ]
                refine wpAnyH_ready (rs := [9]) (by kernel_rfl) (by simp) ?_
                refine AllReadyH.cons (o := ?od30) ?hod30 (fun K hK => ?kd30) ?md30
                case hod30 => (simp only [List.getElem?_toArray, List.getElem?_cons_succ, List.getElem?_cons_zero]; exact rfl)
                case kd30 =>
                  refine anyd_app8h (by rfl) (.tmp 21) (.tmp 29) (by rfl) U.heap.size A' c' m _ (by rfl) ho8 _ _ 1 1 [zb] (by rfl) hr8 (by omega) (Below.size (show Below U.heap.size U _ from hHeld)) ?_
                  intro A9' c9' V9' ho9 hb9
                  refine hK.out _ _ ?_ (fun hHeld => ?_)
                  · exact Below.trans (show Below U.heap.size U _ from hHeld) hb9
                  clear hK K
                  try simp only [Act.put, List.setIfInBounds_toArray, List.set_cons_zero, List.set_cons_succ]
                  refine wpAnyH_ready (rs := [16]) (by kernel_rfl) (by simp) ?_
                  refine AllReadyH.cons (o := ?od31) ?hod31 (fun K hK => ?kd31) ?md31
                  case hod31 => (simp only [List.getElem?_toArray, List.getElem?_cons_succ, List.getElem?_cons_zero]; exact rfl)
                  case kd31 =>
                    go_simp
                    refine (rAtomB_any q Ai ni ci l2 _ ((hrow.below (show Below U.heap.size U _ from hHeld)).more (Below.size (show Below U.heap.size U _ from hHeld))) (by omega)).mono ?_
                    rintro e V5 ⟨A5, m5, c5, rfl, ho5, hb5⟩
                    have hm5 : m5 ≤ 6000 := by have h1 := atomB_lenG q l2 (Nat.le_refl _); have h2 := Ow.len ho5; omega
                    have hx5 := Ow.rd ho5
                    have ho9 := ownBelow ho9 hb5 (Nat.le_refl _)
                    (try dsimp only)
                    refine hK.out _ _ ?_ (fun hHeld => ?_)
                    · exact Below.trans (show Below U.heap.size U _ from hHeld) (hb5.mono (Below.size (show Below U.heap.size U _ from hHeld)))
                    clear hK K
                    try simp only [Act.put, List.setIfInBounds_toArray, List.set_cons_zero, List.set_cons_succ]
                    refine wpAnyH_ready (rs := [17]) (by kernel_rfl) (by simp) ?_
                    refine AllReadyH.cons (o := ?od32) ?hod32 (fun K hK => ?kd32) ?md32
                    case hod32 => (simp only [List.getElem?_toArray, List.getElem?_cons_succ, List.getElem?_cons_zero]; exact rfl)
                    case kd32 =>
                      refine anyd_app8h (by rfl) (.tmp 30) (.tmp 37) (by rfl) U.heap.size A9' c9' (m + 1) _ (by rfl) ho9 _ _ m5 c5 _ (by rfl) hx5 (by omega) (Below.size (show Below U.heap.size U _ from hHeld)) ?_
                      intro A6 c6 V6 ho6 hb6
                      refine hK.out _ _ ?_ (fun hHeld => ?_)
                      · exact Below.trans (show Below U.heap.size U _ from hHeld) hb6
                      clear hK K
                      try simp only [Act.put, List.setIfInBounds_toArray, List.set_cons_zero, List.set_cons_succ]
                      refine wpAnyH_take (i := 18) (oi := ?oid33) (v := ?vd33) ?hod33 (by kernel_rfl) ?hfd33 ?hrd33 ?hQd33 ?hyd33 hHeld ?restd33
                      case hod33 => (simp only [List.getElem?_toArray, List.getElem?_cons_succ, List.getElem?_cons_zero]; exact rfl)
                      case hfd33 => kernel_rfl
                      case hrd33 => kernel_rfl
                      case hQd33 => exact fun _ _ _ h => h
                      case hyd33 =>
                        refine Or.inl ⟨by rfl, ?_⟩
                        intro V hSV
                        go_simp
                        (try with_reducible rfl)
                      try simp only [Act.put, List.setIfInBounds_toArray, List.set_cons_zero, List.set_cons_succ]
                      refine wpAnyH_done (by kernel_rfl) ?_ _
                      have hv6 : Below U.heap.size U V6 := hHeld
                      clear hHeld hr8 ho8 ho9 hb9 hx5 hb5 hb6 hb8
                      have HO6 := Lib.hid ho6
                      have HV6 := Lib.hid hv6
                      clear ho6 hv6
                      repeat (first | go_skip | go_guarded | go_step)
                      go_roundw
                      case rel => exact ⟨i + 1, A6, m + 1 + m5, c6, by omega, rfl, by go_num, by rw [HTK.out, ← List.append_assoc, ← List.append_assoc]; exact HO6.out, by omega, HV6.out⟩
                      case measure => simp [intOf] <;> omega
                    exact AllReadyH.nil
                  exact AllReadyH.nil
                exact AllReadyH.nil
              exact AllReadyH.nil
            exact AllReadyH.nil
          · obtain rfl : i = n1 := by omega
            have HFIN := Lib.hid ho
            clear ho hbr
            repeat (first | go_skip | go_guarded | go_step)
            go_ret
            refine ⟨A', m, c', rfl, ?_, HB.out.trans (HBR.out.mono HB.out.size)⟩
            have h := ownLower HFIN.out (show hb ≤ U.heap.size by have := HB.out.size; omega)
            rw [List.take_of_length_le (by have := HL1.out; omega)] at h
            rw [hhb]
            have e : clauseB ((p, l), L) = atomB (p, l) ++ [z] ++ L.flatMap litB := by
              show atomB (p, l) ++ (UInt8.ofNat L.length :: L.flatMap litB) = _
              rw [HL1.out, ← HZ.out, List.append_assoc]
              rfl
            rw [e]
            exact h
      exact AllReadyH.nil
    exact AllReadyH.nil
  refine AllReadyH.cons (o := ?od11) ?hod11 (fun K hK => ?kd11) ?md11
  case hod11 => (simp only [List.getElem?_toArray, List.getElem?_cons_succ, List.getElem?_cons_zero]; exact rfl)
  case kd11 =>
    refine anyd_lit8 (by rfl) (.tmp 11) z (by rfl) (by rfl) ?_
    intro V8 q8 hr8 hb8
    refine hK.out _ _ ?_ (fun hHeld => ?_)
    · exact Below.trans (show Below U.heap.size U _ from hHeld) (hb8.mono (Below.size (show Below U.heap.size U _ from hHeld)))
    clear hK K
    try simp only [Act.put, List.setIfInBounds_toArray, List.set_cons_zero, List.set_cons_succ]
    refine wpAnyH_ready (rs := [2]) (by kernel_rfl) (by simp) ?_
    refine AllReadyH.cons (o := ?od12) ?hod12 (fun K hK => ?kd12) ?md12
    case hod12 => (simp only [List.getElem?_toArray, List.getElem?_cons_succ, List.getElem?_cons_zero]; exact rfl)
    case kd12 =>
      go_simp
      refine (rAtomB_any p A n c l _ ((HR.out.below (show Below U.heap.size U _ from hHeld)).more (Below.size (show Below U.heap.size U _ from hHeld))) (by omega)).mono ?_
      rintro e V3 ⟨A3, m3, c3, rfl, ho3, hb3⟩
      have ho3 := ownLower ho3 (show U.heap.size ≤ _ from Below.size (show Below U.heap.size U _ from hHeld))
      (try dsimp only)
      have hr8 := (hr8.below hb3).more hb3.size
      refine hK.out _ _ ?_ (fun hHeld => ?_)
      · exact Below.trans (show Below U.heap.size U _ from hHeld) (hb3.mono (Below.size (show Below U.heap.size U _ from hHeld)))
      clear hK K
      try simp only [Act.put, List.setIfInBounds_toArray, List.set_cons_zero, List.set_cons_succ]
      refine wpAnyH_ready (rs := [8]) (by kernel_rfl) (by simp) ?_
      refine AllReadyH.cons (o := ?od13) ?hod13 (fun K hK => ?kd13) ?md13
      case hod13 => (simp only [List.getElem?_toArray, List.getElem?_cons_succ, List.getElem?_cons_zero]; exact rfl)
      case kd13 =>
        refine anyd_app8h (by rfl) (.tmp 7) (.tmp 12) (by rfl) U.heap.size A3 c3 m3 _ (by rfl) ho3 _ _ 1 1 [z] (by rfl) hr8 (by have h1 := atomB_lenG p l (Nat.le_of_eq HL.out); have h2 := Ow.len ho3; omega) (Below.size (show Below U.heap.size U _ from hHeld)) ?_
        intro A9 c9 V9 ho9 hb9
        refine hK.out _ _ ?_ (fun hHeld => ?_)
        · exact Below.trans (show Below U.heap.size U _ from hHeld) hb9
        clear hK K
        try simp only [Act.put, List.setIfInBounds_toArray, List.set_cons_zero, List.set_cons_succ]
        refine wpAnyH_take (i := 9) (oi := ?oid14) (v := ?vd14) ?hod14 (by kernel_rfl) ?hfd14 ?hrd14 ?hQd14 ?hyd14 hHeld ?restd14
        case hod14 => (simp only [List.getElem?_toArray, List.getElem?_cons_succ, List.getElem?_cons_zero]; exact rfl)
        case hfd14 => kernel_rfl
        case hrd14 => kernel_rfl
        case hQd14 => exact fun _ _ _ h => h
        case hyd14 =>
          refine Or.inl ⟨by rfl, ?_⟩
          intro V hSV
          go_simp
          (try with_reducible rfl)
        try simp only [Act.put, List.setIfInBounds_toArray, List.set_cons_zero, List.set_cons_succ]
        refine wpAnyH_done (by kernel_rfl) ?_ _
        have hv : Below U.heap.size U V9 := hHeld
        clear hHeld hr8 ho3 hb9
        try clear hb3
        try clear hb8
        have hm3 : m3 + 1 ≤ 10000 := by have h1 := atomB_lenG p l (Nat.le_of_eq HL.out); have h2 := Ow.len ho9; simp only [List.length_append, List.length_cons, List.length_nil] at h2; omega
        have HO9 := Lib.hid ho9
        have HV := Lib.hid hv
        clear ho9 hv
        repeat (first | go_skip | go_guarded | go_step)
        go_loopw [3, 4] (fun b' i' wr => ∃ (i : Nat) (A' : Option Addr) (m c' : Nat), i ≤ n1 ∧ b' = .slice A' m c' ∧ i' = .int .i64 (i : Int) ∧ Ow wr U.heap.size A' c' m (atomB (p, l) ++ [z] ++ (L.take i).flatMap litB) ∧ m ≤ 10000 + 10000 * i ∧ Below U.heap.size U wr) (fun _ i _ => n1 - (intOf i).toNat)
        case atStart => exact ⟨0, A9, m3 + 1, c9, Nat.zero_le _, rfl, rfl, by simpa using HO9.out, by omega, HV.out⟩
        case round =>
          obtain ⟨i, A', m, c', hi, rfl, rfl, ho, hmi, hbr⟩ := hrel
          have HO := Lib.hid ho
          have HBR := Lib.hid hbr
          have hus := hbr.size
          have k1 := HH.out.readT hbr 2 rfl
          by_cases hlt : i < n1
          · have hci : (i : Int) < (n1 : Int) := by omega
            obtain ⟨b, o, g, q, l2, Ai, ni, ci, hA, hbb, hx, hc0, hc1, hc2, hrow⟩ := HR1.out.at_ hlt
            have hil : i < L.length := by rw [HL1.out]; exact hlt
            have hxe : L[i] = (g, q, l2) := by rw [List.getElem?_eq_getElem hil] at hx; exact Option.some.inj hx
            have hni : ni ≤ 1000 := by have h3 := HK.out _ (List.mem_of_getElem? hx); have h4 := rdT_len hrow; simp only at h3; omega
            have hll := rdT_len hrow
            subst hA
            obtain ⟨zb, hzb, hbit⟩ := bitB_one g
            have htk : (L.take (i + 1)).flatMap litB = (L.take i).flatMap litB ++ ([zb] ++ atomB (q, l2)) := by
              rw [List.take_succ_eq_append_getElem hil, List.flatMap_append, hxe, ← hbit]
              simp [litB]
            have HTK := Lib.hid htk
            clear ho hbr hx htk hil hxe hbit
            repeat (first | go_skip | go_guarded | go_step)
            refine wp_region_held_drew (S := fun V => Below U.heap.size U V) (by kernel_rfl) ?_ (fun hHeld => ?_)
            · exact HBR.out.drew
            refine wpAnyH_take (i := 0) (oi := ?oid34) (v := ?vd34) ?hod34 (by kernel_rfl) ?hfd34 ?hrd34 ?hQd34 ?hyd34 hHeld ?restd34
            case hod34 => (simp only [List.getElem?_toArray, List.getElem?_cons_succ, List.getElem?_cons_zero]; exact rfl)
            case hfd34 => kernel_rfl
            case hrd34 => kernel_rfl
            case hQd34 => exact fun _ _ _ h => h
            case hyd34 =>
              refine Or.inl ⟨by rfl, ?_⟩
              intro V hSV
              go_simp
              (try with_reducible rfl)
            try simp only [Act.put, List.setIfInBounds_toArray, List.set_cons_zero, List.set_cons_succ]
            refine wpAnyH_take (i := 1) (oi := ?oid35) (v := ?vd35) ?hod35 (by kernel_rfl) ?hfd35 ?hrd35 ?hQd35 ?hyd35 hHeld ?restd35
            case hod35 => (simp only [List.getElem?_toArray, List.getElem?_cons_succ, List.getElem?_cons_zero]; exact rfl)
            case hfd35 => kernel_rfl
            case hrd35 => kernel_rfl
            case hQd35 => exact fun _ _ _ h => h
            case hyd35 =>
              refine Or.inl ⟨by rfl, ?_⟩
              intro V hSV
              go_simp
              (try with_reducible rfl)
            try simp only [Act.put, List.setIfInBounds_toArray, List.set_cons_zero, List.set_cons_succ]
            refine wpAnyH_take (i := 2) (oi := ?oid36) (v := ?vd36) ?hod36 (by kernel_rfl) ?hfd36 ?hrd36 ?hQd36 ?hyd36 hHeld ?restd36
            case hod36 => (simp only [List.getElem?_toArray, List.getElem?_cons_succ, List.getElem?_cons_zero]; exact rfl)
            case hfd36 => kernel_rfl
            case hrd36 => kernel_rfl
            case hQd36 => exact fun _ _ _ h => h
            case hyd36 =>
              refine Or.inl ⟨by rfl, ?_⟩
              intro V hSV
              have q := HH.out.readT hSV 2 rfl
              go_simp
              (try with_reducible rfl)
            try simp only [Act.put, List.setIfInBounds_toArray, List.set_cons_zero, List.set_cons_succ]
            refine wpAnyH_take (i := 3) (oi := ?oid37) (v := ?vd37) ?hod37 (by kernel_rfl) ?hfd37 ?hrd37 ?hQd37 ?hyd37 hHeld ?restd37
            case hod37 => (simp only [List.getElem?_toArray, List.getElem?_cons_succ, List.getElem?_cons_zero]; exact rfl)
            case hfd37 => kernel_rfl
            case hrd37 => kernel_rfl
            case hQd37 => exact fun _ _ _ h => h
            case hyd37 =>
              refine Or.inl ⟨by rfl, ?_⟩
              intro V hSV
              go_simp
              (try with_reducible rfl)
            try simp only [Act.put, List.setIfInBounds_toArray, List.set_cons_zero, List.set_cons_succ]
            refine wpAnyH_take (i := 4) (oi := ?oid38) (v := ?vd38) ?hod38 (by kernel_rfl) ?hfd38 ?hrd38 ?hQd38 ?hyd38 hHeld ?restd38
            case hod38 => (simp only [List.getElem?_toArray, List.getElem?_cons_succ, List.getElem?_cons_zero]; exact rfl)
            case hfd38 => kernel_rfl
            case hrd38 => kernel_rfl
            case hQd38 => exact fun _ _ _ h => h
            case hyd38 =>
              refine Or.inl ⟨by rfl, ?_⟩
              intro V hSV
              go_simp
              (try with_reducible rfl)
            try simp only [Act.put, List.setIfInBounds_toArray, List.set_cons_zero, List.set_cons_succ]
            refine wpAnyH_take (i := 5) (oi := ?oid39) (v := ?vd39) ?hod39 (by kernel_rfl) ?hfd39 ?hrd39 ?hQd39 ?hyd39 hHeld ?restd39
            case hod39 => (simp only [List.getElem?_toArray, List.getElem?_cons_succ, List.getElem?_cons_zero]; exact rfl)
            case hfd39 => kernel_rfl
            case hrd39 => kernel_rfl
            case hQd39 => exact fun _ _ _ h => h
            case hyd39 =>
              refine Or.inl ⟨by rfl, ?_⟩
              intro V hSV
              go_simp
              (try with_reducible rfl)
            try simp only [Act.put, List.setIfInBounds_toArray, List.set_cons_zero, List.set_cons_succ]
            refine wpAnyH_take (i := 6) (oi := ?oid40) (v := ?vd40) ?hod40 (by kernel_rfl) ?hfd40 ?hrd40 ?hQd40 ?hyd40 hHeld ?restd40
            case hod40 => (simp only [List.getElem?_toArray, List.getElem?_cons_succ, List.getElem?_cons_zero]; exact rfl)
            case hfd40 => kernel_rfl
            case hrd40 => kernel_rfl
            case hQd40 => exact fun _ _ _ h => h
            case hyd40 =>
              refine Or.inl ⟨by rfl, ?_⟩
              intro V hSV
              have q := (Below.cell hSV (p := ⟨b, _, none⟩) hbb).trans hc0
              go_simp
              (try with_reducible rfl)
            try simp only [Act.put, List.setIfInBounds_toArray, List.set_cons_zero, List.set_cons_succ]
            refine wpAnyH_take (i := 10) (oi := ?oid41) (v := ?vd41) ?hod41 (by kernel_rfl) ?hfd41 ?hrd41 ?hQd41 ?hyd41 hHeld ?restd41
            case hod41 => (simp only [List.getElem?_toArray, List.getElem?_cons_succ, List.getElem?_cons_zero]; exact rfl)
            case hfd41 => kernel_rfl
            case hrd41 => kernel_rfl
            case hQd41 => exact fun _ _ _ h => h
            case hyd41 =>
              refine Or.inl ⟨by rfl, ?_⟩
              intro V hSV
              go_simp
              (try with_reducible rfl)
            try simp only [Act.put, List.setIfInBounds_toArray, List.set_cons_zero, List.set_cons_succ]
            refine wpAnyH_take (i := 11) (oi := ?oid42) (v := ?vd42) ?hod42 (by kernel_rfl) ?hfd42 ?hrd42 ?hQd42 ?hyd42 hHeld ?restd42
            case hod42 => (simp only [List.getElem?_toArray, List.getElem?_cons_succ, List.getElem?_cons_zero]; exact rfl)
            case hfd42 => kernel_rfl
            case hrd42 => kernel_rfl
            case hQd42 => exact fun _ _ _ h => h
            case hyd42 =>
              refine Or.inl ⟨by rfl, ?_⟩
              intro V hSV
              have q := HH.out.readT hSV 2 rfl
              go_simp
              (try with_reducible rfl)
            try simp only [Act.put, List.setIfInBounds_toArray, List.set_cons_zero, List.set_cons_succ]
            refine wpAnyH_take (i := 12) (oi := ?oid43) (v := ?vd43) ?hod43 (by kernel_rfl) ?hfd43 ?hrd43 ?hQd43 ?hyd43 hHeld ?restd43
            case hod43 => (simp only [List.getElem?_toArray, List.getElem?_cons_succ, List.getElem?_cons_zero]; exact rfl)
            case hfd43 => kernel_rfl
            case hrd43 => kernel_rfl
            case hQd43 => exact fun _ _ _ h => h
            case hyd43 =>
              refine Or.inl ⟨by rfl, ?_⟩
              intro V hSV
              go_simp
              (try with_reducible rfl)
            try simp only [Act.put, List.setIfInBounds_toArray, List.set_cons_zero, List.set_cons_succ]
            refine wpAnyH_take (i := 13) (oi := ?oid44) (v := ?vd44) ?hod44 (by kernel_rfl) ?hfd44 ?hrd44 ?hQd44 ?hyd44 hHeld ?restd44
            case hod44 => (simp only [List.getElem?_toArray, List.getElem?_cons_succ, List.getElem?_cons_zero]; exact rfl)
            case hfd44 => kernel_rfl
            case hrd44 => kernel_rfl
            case hQd44 => exact fun _ _ _ h => h
            case hyd44 =>
              refine Or.inl ⟨by rfl, ?_⟩
              intro V hSV
              go_simp
              (try with_reducible rfl)
            try simp only [Act.put, List.setIfInBounds_toArray, List.set_cons_zero, List.set_cons_succ]
            refine wpAnyH_take (i := 14) (oi := ?oid45) (v := ?vd45) ?hod45 (by kernel_rfl) ?hfd45 ?hrd45 ?hQd45 ?hyd45 hHeld ?restd45
            case hod45 => (simp only [List.getElem?_toArray, List.getElem?_cons_succ, List.getElem?_cons_zero]; exact rfl)
            case hfd45 => kernel_rfl
            case hrd45 => kernel_rfl
            case hQd45 => exact fun _ _ _ h => h
            case hyd45 =>
              refine Or.inl ⟨by rfl, ?_⟩
              intro V hSV
              go_simp
              (try with_reducible rfl)
            try simp only [Act.put, List.setIfInBounds_toArray, List.set_cons_zero, List.set_cons_succ]
            refine wpAnyH_take (i := 15) (oi := ?oid46) (v := ?vd46) ?hod46 (by kernel_rfl) ?hfd46 ?hrd46 ?hQd46 ?hyd46 hHeld ?restd46
            case hod46 => (simp only [List.getElem?_toArray, List.getElem?_cons_succ, List.getElem?_cons_zero]; exact rfl)
            case hfd46 => kernel_rfl
            case hrd46 => kernel_rfl
            case hQd46 => exact fun _ _ _ h => h
            case hyd46 =>
              refine Or.inl ⟨by rfl, ?_⟩
              intro V hSV
              have q1 := (Below.cell hSV (p := ⟨b, _, none⟩) hbb).trans hc1
              have q2 := (Below.cell hSV (p := ⟨b, _, none⟩) hbb).trans hc2
              go_simp
              (try with_reducible rfl)
            try simp only [Act.put, List.setIfInBounds_toArray, List.set_cons_zero, List.set_cons_succ]
            refine wpAnyH_ready (rs := [7]) (by kernel_rfl) (by simp) ?_
            refine AllReadyH.cons (o := ?od47) ?hod47 (fun K hK => ?kd47) ?md47
            case hod47 => (simp only [List.getElem?_toArray, List.getElem?_cons_succ, List.getElem?_cons_zero]; exact rfl)
            case kd47 =>
              go_simp
              refine (rBit_any g _).mono ?_
              rintro e w7 ⟨rfl, rfl⟩
              (try dsimp only)
              rw [hzb]
              refine hK.out _ _ ?_ (fun hHeld => ?_)
              · exact (show Below U.heap.size U _ from hHeld)
              clear hK K
              try simp only [Act.put, List.setIfInBounds_toArray, List.set_cons_zero, List.set_cons_succ]
              refine wpAnyH_ready (rs := [8]) (by kernel_rfl) (by simp) ?_
              refine AllReadyH.cons (o := ?od48) ?hod48 (fun K hK => ?kd48) ?md48
              case hod48 => (simp only [List.getElem?_toArray, List.getElem?_cons_succ, List.getElem?_cons_zero]; exact rfl)
              case kd48 =>
                refine anyd_lit8 (by rfl) (.tmp 28) zb (by rfl) (by rfl) ?_
                intro V8 q8 hr8 hb8
                have ho8 := ownBelow (World.ownsRow.drew HO.out) hb8 (Nat.le_refl _)
                refine hK.out _ _ ?_ (fun hHeld => ?_)
                · exact Below.trans (show Below U.heap.size U _ from hHeld) (hb8.mono (Below.size (show Below U.heap.size U _ from hHeld)))
                clear hK K
                try simp only [Act.put, List.setIfInBounds_toArray, List.set_cons_zero, List.set_cons_succ]
                refine wpAnyH_ready (rs := [9]) (by kernel_rfl) (by simp) ?_
                refine AllReadyH.cons (o := ?od49) ?hod49 (fun K hK => ?kd49) ?md49
                case hod49 => (simp only [List.getElem?_toArray, List.getElem?_cons_succ, List.getElem?_cons_zero]; exact rfl)
                case kd49 =>
                  refine anyd_app8h (by rfl) (.tmp 21) (.tmp 29) (by rfl) U.heap.size A' c' m _ (by rfl) ho8 _ _ 1 1 [zb] (by rfl) hr8 (by omega) (Below.size (show Below U.heap.size U _ from hHeld)) ?_
                  intro A9' c9' V9' ho9 hb9
                  refine hK.out _ _ ?_ (fun hHeld => ?_)
                  · exact Below.trans (show Below U.heap.size U _ from hHeld) hb9
                  clear hK K
                  try simp only [Act.put, List.setIfInBounds_toArray, List.set_cons_zero, List.set_cons_succ]
                  refine wpAnyH_ready (rs := [16]) (by kernel_rfl) (by simp) ?_
                  refine AllReadyH.cons (o := ?od50) ?hod50 (fun K hK => ?kd50) ?md50
                  case hod50 => (simp only [List.getElem?_toArray, List.getElem?_cons_succ, List.getElem?_cons_zero]; exact rfl)
                  case kd50 =>
                    go_simp
                    refine (rAtomB_any q Ai ni ci l2 _ ((hrow.below (show Below U.heap.size U _ from hHeld)).more (Below.size (show Below U.heap.size U _ from hHeld))) (by omega)).mono ?_
                    rintro e V5 ⟨A5, m5, c5, rfl, ho5, hb5⟩
                    have hm5 : m5 ≤ 6000 := by have h1 := atomB_lenG q l2 (Nat.le_refl _); have h2 := Ow.len ho5; omega
                    have hx5 := Ow.rd ho5
                    have ho9 := ownBelow ho9 hb5 (Nat.le_refl _)
                    (try dsimp only)
                    refine hK.out _ _ ?_ (fun hHeld => ?_)
                    · exact Below.trans (show Below U.heap.size U _ from hHeld) (hb5.mono (Below.size (show Below U.heap.size U _ from hHeld)))
                    clear hK K
                    try simp only [Act.put, List.setIfInBounds_toArray, List.set_cons_zero, List.set_cons_succ]
                    refine wpAnyH_ready (rs := [17]) (by kernel_rfl) (by simp) ?_
                    refine AllReadyH.cons (o := ?od51) ?hod51 (fun K hK => ?kd51) ?md51
                    case hod51 => (simp only [List.getElem?_toArray, List.getElem?_cons_succ, List.getElem?_cons_zero]; exact rfl)
                    case kd51 =>
                      refine anyd_app8h (by rfl) (.tmp 30) (.tmp 37) (by rfl) U.heap.size A9' c9' (m + 1) _ (by rfl) ho9 _ _ m5 c5 _ (by rfl) hx5 (by omega) (Below.size (show Below U.heap.size U _ from hHeld)) ?_
                      intro A6 c6 V6 ho6 hb6
                      refine hK.out _ _ ?_ (fun hHeld => ?_)
                      · exact Below.trans (show Below U.heap.size U _ from hHeld) hb6
                      clear hK K
                      try simp only [Act.put, List.setIfInBounds_toArray, List.set_cons_zero, List.set_cons_succ]
                      refine wpAnyH_take (i := 18) (oi := ?oid52) (v := ?vd52) ?hod52 (by kernel_rfl) ?hfd52 ?hrd52 ?hQd52 ?hyd52 hHeld ?restd52
                      case hod52 => (simp only [List.getElem?_toArray, List.getElem?_cons_succ, List.getElem?_cons_zero]; exact rfl)
                      case hfd52 => kernel_rfl
                      case hrd52 => kernel_rfl
                      case hQd52 => exact fun _ _ _ h => h
                      case hyd52 =>
                        refine Or.inl ⟨by rfl, ?_⟩
                        intro V hSV
                        go_simp
                        (try with_reducible rfl)
                      try simp only [Act.put, List.setIfInBounds_toArray, List.set_cons_zero, List.set_cons_succ]
                      refine wpAnyH_done (by kernel_rfl) ?_ _
                      have hv6 : Below U.heap.size U V6 := hHeld
                      clear hHeld hr8 ho8 ho9 hb9 hx5 hb5 hb6 hb8
                      have HO6 := Lib.hid ho6
                      have HV6 := Lib.hid hv6
                      clear ho6 hv6
                      repeat (first | go_skip | go_guarded | go_step)
                      go_roundw
                      case rel => exact ⟨i + 1, A6, m + 1 + m5, c6, by omega, rfl, by go_num, by rw [HTK.out, ← List.append_assoc, ← List.append_assoc]; exact HO6.out, by omega, HV6.out⟩
                      case measure => simp [intOf] <;> omega
                    exact AllReadyH.nil
                  exact AllReadyH.nil
                exact AllReadyH.nil
              exact AllReadyH.nil
            exact AllReadyH.nil
          · obtain rfl : i = n1 := by omega
            have HFIN := Lib.hid ho
            clear ho hbr
            repeat (first | go_skip | go_guarded | go_step)
            go_ret
            refine ⟨A', m, c', rfl, ?_, HB.out.trans (HBR.out.mono HB.out.size)⟩
            have h := ownLower HFIN.out (show hb ≤ U.heap.size by have := HB.out.size; omega)
            rw [List.take_of_length_le (by have := HL1.out; omega)] at h
            rw [hhb]
            have e : clauseB ((p, l), L) = atomB (p, l) ++ [z] ++ L.flatMap litB := by
              show atomB (p, l) ++ (UInt8.ofNat L.length :: L.flatMap litB) = _
              rw [HL1.out, ← HZ.out, List.append_assoc]
              rfl
            rw [e]
            exact h
      exact AllReadyH.nil
    exact AllReadyH.nil
  exact AllReadyH.nil


set_option maxRecDepth 100000 in
set_option maxHeartbeats 4000000 in
theorem rRuleB_any (s0 : Bool) (x0 : Tm) (p : UInt32) (A : Option Addr) (n c : Nat) (l : List Tm) (A1 : Option Addr) (n1 c1 : Nat) (R : List SlA) (L : List Co) (w : World) (h : RdT w w.heap.size A n l) (h1 : RdK w w.heap.size A1 n1 R L) (hn : n ≤ 1000) (hn1 : n1 ≤ 1000) (hk : ∀ x ∈ L, x.2.2.2.2.length ≤ 1000) :
    Calls Try.prog 29 #[.agg #[.bool s0, .bool x0.1, nv x0.2, nv p, .slice A n c, .slice A1 n1 c1]] w fun e w' => ∃ A' m c', e = .returned (.slice A' m c') ∧ Ow w' w.heap.size A' c' m (ruleB ((s0, x0, (p, l)), L)) ∧ Below w.heap.size w w' := by
  have hl : l.length = n := rdT_len h
  have hl1 := h1.lenL
  obtain ⟨U, hU, hH, hbU⟩ : ∃ U, U = w.alloc (.cells #[.bool s0, .bool x0.1, nv x0.2, nv p, .slice A n c, .slice A1 n1 c1] 59) ∧ Bk U w.heap.size 59 [.bool s0, .bool x0.1, nv x0.2, nv p, .slice A n c, .slice A1 n1 c1] ∧ Below w.heap.size w U :=
    ⟨_, rfl, Bk.new w _ _, (Below.refl _ _).alloc (Nat.le_refl _) _⟩
  have HU := Lib.hid hU
  have HH := Lib.hid hH
  have HB := Lib.hid hbU
  have HR := Lib.hid ((h.below hbU).more hbU.size)
  have HR1 := Lib.hid ((h1.below hbU).more hbU.size)
  have HL := Lib.hid hl
  have HL1 := Lib.hid hl1
  have HK := Lib.hid hk
  obtain ⟨z, hz⟩ : ∃ z, z = UInt8.ofNat n1 := ⟨_, rfl⟩
  have e1 : IntKind.u8.wrap (n1 : Int) = (z.toNat : Int) := by
    rw [hz, IntKind.wrap_u8]
    simp
  have HZ := Lib.hid hz
  clear hU hH hbU hz h h1 hl hl1 hk
  go_enter Try.func29, Try.ntmps29
  go_upto_region 1 with (fail)
  rw [← HU.out]
  clear HU
  generalize hhb : w.heap.size = hb at HH HB ⊢
  rw [← hhb] at HB
  have hbu := HH.out.lt
  refine wp_region_held_drew (S := fun V => Below U.heap.size U V) (by kernel_rfl) ?_ (fun hHeld => ?_)
  · exact (Below.refl U.heap.size U).drew
  refine wpAnyH_take (i := 0) (oi := ?oid53) (v := ?vd53) ?hod53 (by kernel_rfl) ?hfd53 ?hrd53 ?hQd53 ?hyd53 hHeld ?restd53
  case hod53 => (simp only [List.getElem?_toArray, List.getElem?_cons_succ, List.getElem?_cons_zero]; exact rfl)
  case hfd53 => kernel_rfl
  case hrd53 => kernel_rfl
  case hQd53 => exact fun _ _ _ h => h
  case hyd53 =>
    refine Or.inl ⟨by rfl, ?_⟩
    intro V hSV
    go_simp
    (try with_reducible rfl)
  try simp only [Act.put, List.setIfInBounds_toArray, List.set_cons_zero, List.set_cons_succ]
  refine wpAnyH_take (i := 1) (oi := ?oid54) (v := ?vd54) ?hod54 (by kernel_rfl) ?hfd54 ?hrd54 ?hQd54 ?hyd54 hHeld ?restd54
  case hod54 => (simp only [List.getElem?_toArray, List.getElem?_cons_succ, List.getElem?_cons_zero]; exact rfl)
  case hfd54 => kernel_rfl
  case hrd54 => kernel_rfl
  case hQd54 => exact fun _ _ _ h => h
  case hyd54 =>
    refine Or.inl ⟨by rfl, ?_⟩
    intro V hSV
    have q0 := HH.out.readT hSV 0 rfl
    have q1 := HH.out.readT hSV 1 rfl
    have q2 := HH.out.readT hSV 2 rfl
    have q3 := HH.out.readT hSV 3 rfl
    have q4 := HH.out.readT hSV 4 rfl
    go_simp
    (try with_reducible rfl)
  try simp only [Act.put, List.setIfInBounds_toArray, List.set_cons_zero, List.set_cons_succ]
  refine wpAnyH_take (i := 3) (oi := ?oid55) (v := ?vd55) ?hod55 (by kernel_rfl) ?hfd55 ?hrd55 ?hQd55 ?hyd55 hHeld ?restd55
  case hod55 => (simp only [List.getElem?_toArray, List.getElem?_cons_succ, List.getElem?_cons_zero]; exact rfl)
  case hfd55 => kernel_rfl
  case hrd55 => kernel_rfl
  case hQd55 => exact fun _ _ _ h => h
  case hyd55 =>
    refine Or.inl ⟨by rfl, ?_⟩
    intro V hSV
    go_simp
    (try with_reducible rfl)
  try simp only [Act.put, List.setIfInBounds_toArray, List.set_cons_zero, List.set_cons_succ]
  refine wpAnyH_take (i := 4) (oi := ?oid56) (v := ?vd56) ?hod56 (by kernel_rfl) ?hfd56 ?hrd56 ?hQd56 ?hyd56 hHeld ?restd56
  case hod56 => (simp only [List.getElem?_toArray, List.getElem?_cons_succ, List.getElem?_cons_zero]; exact rfl)
  case hfd56 => kernel_rfl
  case hrd56 => kernel_rfl
  case hQd56 => exact fun _ _ _ h => h
  case hyd56 =>
    refine Or.inl ⟨by rfl, ?_⟩
    intro V hSV
    have q := HH.out.readT hSV 5 rfl
    go_simp
    (try with_reducible rfl)
  try simp only [Act.put, List.setIfInBounds_toArray, List.set_cons_zero, List.set_cons_succ]
  refine wpAnyH_take (i := 5) (oi := ?oid57) (v := ?vd57) ?hod57 (by kernel_rfl) ?hfd57 ?hrd57 ?hQd57 ?hyd57 hHeld ?restd57
  case hod57 => (simp only [List.getElem?_toArray, List.getElem?_cons_succ, List.getElem?_cons_zero]; exact rfl)
  case hfd57 => kernel_rfl
  case hrd57 => kernel_rfl
  case hQd57 => exact fun _ _ _ h => h
  case hyd57 =>
    refine Or.inl ⟨by rfl, ?_⟩
    intro V hSV
    go_simp
    (try with_reducible rfl)
  try simp only [Act.put, List.setIfInBounds_toArray, List.set_cons_zero, List.set_cons_succ]
  refine wpAnyH_take (i := 6) (oi := ?oid58) (v := ?vd58) ?hod58 (by kernel_rfl) ?hfd58 ?hrd58 ?hQd58 ?hyd58 hHeld ?restd58
  case hod58 => (simp only [List.getElem?_toArray, List.getElem?_cons_succ, List.getElem?_cons_zero]; exact rfl)
  case hfd58 => kernel_rfl
  case hrd58 => kernel_rfl
  case hQd58 => exact fun _ _ _ h => h
  case hyd58 =>
    refine Or.inl ⟨by rfl, ?_⟩
    intro V hSV
    go_simp
    (try with_reducible rfl)
  try simp only [Act.put, List.setIfInBounds_toArray, List.set_cons_zero, List.set_cons_succ]
  refine wpAnyH_ready (rs := [2, 7]) (by kernel_rfl) (by simp) ?_
  refine AllReadyH.cons (o := ?od59) ?hod59 (fun K hK => ?kd59) ?md59
  case hod59 => (simp only [List.getElem?_toArray, List.getElem?_cons_succ, List.getElem?_cons_zero]; exact rfl)
  case kd59 =>
    go_simp
    refine (rSayB_any s0 x0 p A n c l _ ((HR.out.below (show Below U.heap.size U _ from hHeld)).more (Below.size (show Below U.heap.size U _ from hHeld))) (by omega)).mono ?_
    rintro e V3 ⟨A3, m3, c3, rfl, ho3, hb3⟩
    have ho3 := ownLower ho3 (show U.heap.size ≤ _ from Below.size (show Below U.heap.size U _ from hHeld))
    (try dsimp only)
    refine hK.out _ _ ?_ (fun hHeld => ?_)
    · exact Below.trans (show Below U.heap.size U _ from hHeld) (hb3.mono (Below.size (show Below U.heap.size U _ from hHeld)))
    clear hK K
    try simp only [Act.put, List.setIfInBounds_toArray, List.set_cons_zero, List.set_cons_succ]
    refine wpAnyH_ready (rs := [7]) (by kernel_rfl) (by simp) ?_
    refine AllReadyH.cons (o := ?od60) ?hod60 (fun K hK => ?kd60) ?md60
    case hod60 => (simp only [List.getElem?_toArray, List.getElem?_cons_succ, List.getElem?_cons_zero]; exact rfl)
    case kd60 =>
      refine anyd_lit8 (by rfl) (.tmp 11) z (by rfl) (by rfl) ?_
      intro V8 q8 hr8 hb8
      have ho3 := ownBelow ho3 hb8 (Nat.le_refl _)
      refine hK.out _ _ ?_ (fun hHeld => ?_)
      · exact Below.trans (show Below U.heap.size U _ from hHeld) (hb8.mono (Below.size (show Below U.heap.size U _ from hHeld)))
      clear hK K
      try simp only [Act.put, List.setIfInBounds_toArray, List.set_cons_zero, List.set_cons_succ]
      refine wpAnyH_ready (rs := [8]) (by kernel_rfl) (by simp) ?_
      refine AllReadyH.cons (o := ?od61) ?hod61 (fun K hK => ?kd61) ?md61
      case hod61 => (simp only [List.getElem?_toArray, List.getElem?_cons_succ, List.getElem?_cons_zero]; exact rfl)
      case kd61 =>
        refine anyd_app8h (by rfl) (.tmp 7) (.tmp 12) (by rfl) U.heap.size A3 c3 m3 _ (by rfl) ho3 _ _ 1 1 [z] (by rfl) hr8 (by have h1 := sayB_lenG s0 x0 p l (Nat.le_of_eq HL.out); have h2 := Ow.len ho3; omega) (Below.size (show Below U.heap.size U _ from hHeld)) ?_
        intro A9 c9 V9 ho9 hb9
        refine hK.out _ _ ?_ (fun hHeld => ?_)
        · exact Below.trans (show Below U.heap.size U _ from hHeld) hb9
        clear hK K
        try simp only [Act.put, List.setIfInBounds_toArray, List.set_cons_zero, List.set_cons_succ]
        refine wpAnyH_take (i := 9) (oi := ?oid62) (v := ?vd62) ?hod62 (by kernel_rfl) ?hfd62 ?hrd62 ?hQd62 ?hyd62 hHeld ?restd62
        case hod62 => (simp only [List.getElem?_toArray, List.getElem?_cons_succ, List.getElem?_cons_zero]; exact rfl)
        case hfd62 => kernel_rfl
        case hrd62 => kernel_rfl
        case hQd62 => exact fun _ _ _ h => h
        case hyd62 =>
          refine Or.inl ⟨by rfl, ?_⟩
          intro V hSV
          go_simp
          (try with_reducible rfl)
        try simp only [Act.put, List.setIfInBounds_toArray, List.set_cons_zero, List.set_cons_succ]
        refine wpAnyH_done (by kernel_rfl) ?_ _
        have hv : Below U.heap.size U V9 := hHeld
        clear hHeld hr8 ho3 hb9
        try clear hb3
        try clear hb8
        have hm3 : m3 + 1 ≤ 10000 := by have h1 := sayB_lenG s0 x0 p l (Nat.le_of_eq HL.out); have h2 := Ow.len ho9; simp only [List.length_append, List.length_cons, List.length_nil] at h2; omega
        have HO9 := Lib.hid ho9
        have HV := Lib.hid hv
        clear ho9 hv
        repeat (first | go_skip | go_guarded | go_step)
        go_loopw [3, 4] (fun b' i' wr => ∃ (i : Nat) (A' : Option Addr) (m c' : Nat), i ≤ n1 ∧ b' = .slice A' m c' ∧ i' = .int .i64 (i : Int) ∧ Ow wr U.heap.size A' c' m (sayB (s0, x0, (p, l)) ++ [z] ++ (L.take i).flatMap condB) ∧ m ≤ 10000 + 10000 * i ∧ Below U.heap.size U wr) (fun _ i _ => n1 - (intOf i).toNat)
        case atStart => exact ⟨0, A9, m3 + 1, c9, Nat.zero_le _, rfl, rfl, by simpa using HO9.out, by omega, HV.out⟩
        case round =>
          obtain ⟨i, A', m, c', hi, rfl, rfl, ho, hmi, hbr⟩ := hrel
          have HO := Lib.hid ho
          have HBR := Lib.hid hbr
          have hus := hbr.size
          have k1 := HH.out.readT hbr 5 rfl
          by_cases hlt : i < n1
          · have hci : (i : Int) < (n1 : Int) := by omega
            obtain ⟨b, o, g, s, x, q, l2, Ai, ni, ci, hA, hbb, hx, hc0, hc1, hc2, hc3, hc4, hc5, hrow⟩ := HR1.out.at_ hlt
            have hil : i < L.length := by rw [HL1.out]; exact hlt
            have hxe : L[i] = (g, s, x, q, l2) := by rw [List.getElem?_eq_getElem hil] at hx; exact Option.some.inj hx
            have hni : ni ≤ 1000 := by have h3 := HK.out _ (List.mem_of_getElem? hx); have h4 := rdT_len hrow; simp only at h3; omega
            have hll := rdT_len hrow
            subst hA
            obtain ⟨zb, hzb, hbit⟩ := bitB_one g
            have htk : (L.take (i + 1)).flatMap condB = (L.take i).flatMap condB ++ ([zb] ++ sayB (s, x, (q, l2))) := by
              rw [List.take_succ_eq_append_getElem hil, List.flatMap_append, hxe, ← hbit]
              simp [condB]
            have HTK := Lib.hid htk
            clear ho hbr hx htk hil hxe hbit
            repeat (first | go_skip | go_guarded | go_step)
            refine wp_region_held_drew (S := fun V => Below U.heap.size U V) (by kernel_rfl) ?_ (fun hHeld => ?_)
            · exact HBR.out.drew
            refine wpAnyH_take (i := 0) (oi := ?oid67) (v := ?vd67) ?hod67 (by kernel_rfl) ?hfd67 ?hrd67 ?hQd67 ?hyd67 hHeld ?restd67
            case hod67 => (simp only [List.getElem?_toArray, List.getElem?_cons_succ, List.getElem?_cons_zero]; exact rfl)
            case hfd67 => kernel_rfl
            case hrd67 => kernel_rfl
            case hQd67 => exact fun _ _ _ h => h
            case hyd67 =>
              refine Or.inl ⟨by rfl, ?_⟩
              intro V hSV
              go_simp
              (try with_reducible rfl)
            try simp only [Act.put, List.setIfInBounds_toArray, List.set_cons_zero, List.set_cons_succ]
            refine wpAnyH_take (i := 1) (oi := ?oid68) (v := ?vd68) ?hod68 (by kernel_rfl) ?hfd68 ?hrd68 ?hQd68 ?hyd68 hHeld ?restd68
            case hod68 => (simp only [List.getElem?_toArray, List.getElem?_cons_succ, List.getElem?_cons_zero]; exact rfl)
            case hfd68 => kernel_rfl
            case hrd68 => kernel_rfl
            case hQd68 => exact fun _ _ _ h => h
            case hyd68 =>
              refine Or.inl ⟨by rfl, ?_⟩
              intro V hSV
              go_simp
              (try with_reducible rfl)
            try simp only [Act.put, List.setIfInBounds_toArray, List.set_cons_zero, List.set_cons_succ]
            refine wpAnyH_take (i := 2) (oi := ?oid69) (v := ?vd69) ?hod69 (by kernel_rfl) ?hfd69 ?hrd69 ?hQd69 ?hyd69 hHeld ?restd69
            case hod69 => (simp only [List.getElem?_toArray, List.getElem?_cons_succ, List.getElem?_cons_zero]; exact rfl)
            case hfd69 => kernel_rfl
            case hrd69 => kernel_rfl
            case hQd69 => exact fun _ _ _ h => h
            case hyd69 =>
              refine Or.inl ⟨by rfl, ?_⟩
              intro V hSV
              have q := HH.out.readT hSV 5 rfl
              go_simp
              (try with_reducible rfl)
            try simp only [Act.put, List.setIfInBounds_toArray, List.set_cons_zero, List.set_cons_succ]
            refine wpAnyH_take (i := 3) (oi := ?oid70) (v := ?vd70) ?hod70 (by kernel_rfl) ?hfd70 ?hrd70 ?hQd70 ?hyd70 hHeld ?restd70
            case hod70 => (simp only [List.getElem?_toArray, List.getElem?_cons_succ, List.getElem?_cons_zero]; exact rfl)
            case hfd70 => kernel_rfl
            case hrd70 => kernel_rfl
            case hQd70 => exact fun _ _ _ h => h
            case hyd70 =>
              refine Or.inl ⟨by rfl, ?_⟩
              intro V hSV
              go_simp
              (try with_reducible rfl)
            try simp only [Act.put, List.setIfInBounds_toArray, List.set_cons_zero, List.set_cons_succ]
            refine wpAnyH_take (i := 4) (oi := ?oid71) (v := ?vd71) ?hod71 (by kernel_rfl) ?hfd71 ?hrd71 ?hQd71 ?hyd71 hHeld ?restd71
            case hod71 => (simp only [List.getElem?_toArray, List.getElem?_cons_succ, List.getElem?_cons_zero]; exact rfl)
            case hfd71 => kernel_rfl
            case hrd71 => kernel_rfl
            case hQd71 => exact fun _ _ _ h => h
            case hyd71 =>
              refine Or.inl ⟨by rfl, ?_⟩
              intro V hSV
              go_simp
              (try with_reducible rfl)
            try simp only [Act.put, List.setIfInBounds_toArray, List.set_cons_zero, List.set_cons_succ]
            refine wpAnyH_take (i := 5) (oi := ?oid72) (v := ?vd72) ?hod72 (by kernel_rfl) ?hfd72 ?hrd72 ?hQd72 ?hyd72 hHeld ?restd72
            case hod72 => (simp only [List.getElem?_toArray, List.getElem?_cons_succ, List.getElem?_cons_zero]; exact rfl)
            case hfd72 => kernel_rfl
            case hrd72 => kernel_rfl
            case hQd72 => exact fun _ _ _ h => h
            case hyd72 =>
              refine Or.inl ⟨by rfl, ?_⟩
              intro V hSV
              go_simp
              (try with_reducible rfl)
            try simp only [Act.put, List.setIfInBounds_toArray, List.set_cons_zero, List.set_cons_succ]
            refine wpAnyH_take (i := 6) (oi := ?oid73) (v := ?vd73) ?hod73 (by kernel_rfl) ?hfd73 ?hrd73 ?hQd73 ?hyd73 hHeld ?restd73
            case hod73 => (simp only [List.getElem?_toArray, List.getElem?_cons_succ, List.getElem?_cons_zero]; exact rfl)
            case hfd73 => kernel_rfl
            case hrd73 => kernel_rfl
            case hQd73 => exact fun _ _ _ h => h
            case hyd73 =>
              refine Or.inl ⟨by rfl, ?_⟩
              intro V hSV
              have q := (Below.cell hSV (p := ⟨b, _, none⟩) hbb).trans hc0
              go_simp
              (try with_reducible rfl)
            try simp only [Act.put, List.setIfInBounds_toArray, List.set_cons_zero, List.set_cons_succ]
            refine wpAnyH_take (i := 10) (oi := ?oid74) (v := ?vd74) ?hod74 (by kernel_rfl) ?hfd74 ?hrd74 ?hQd74 ?hyd74 hHeld ?restd74
            case hod74 => (simp only [List.getElem?_toArray, List.getElem?_cons_succ, List.getElem?_cons_zero]; exact rfl)
            case hfd74 => kernel_rfl
            case hrd74 => kernel_rfl
            case hQd74 => exact fun _ _ _ h => h
            case hyd74 =>
              refine Or.inl ⟨by rfl, ?_⟩
              intro V hSV
              go_simp
              (try with_reducible rfl)
            try simp only [Act.put, List.setIfInBounds_toArray, List.set_cons_zero, List.set_cons_succ]
            refine wpAnyH_take (i := 11) (oi := ?oid75) (v := ?vd75) ?hod75 (by kernel_rfl) ?hfd75 ?hrd75 ?hQd75 ?hyd75 hHeld ?restd75
            case hod75 => (simp only [List.getElem?_toArray, List.getElem?_cons_succ, List.getElem?_cons_zero]; exact rfl)
            case hfd75 => kernel_rfl
            case hrd75 => kernel_rfl
            case hQd75 => exact fun _ _ _ h => h
            case hyd75 =>
              refine Or.inl ⟨by rfl, ?_⟩
              intro V hSV
              have q := HH.out.readT hSV 5 rfl
              go_simp
              (try with_reducible rfl)
            try simp only [Act.put, List.setIfInBounds_toArray, List.set_cons_zero, List.set_cons_succ]
            refine wpAnyH_take (i := 12) (oi := ?oid76) (v := ?vd76) ?hod76 (by kernel_rfl) ?hfd76 ?hrd76 ?hQd76 ?hyd76 hHeld ?restd76
            case hod76 => (simp only [List.getElem?_toArray, List.getElem?_cons_succ, List.getElem?_cons_zero]; exact rfl)
            case hfd76 => kernel_rfl
            case hrd76 => kernel_rfl
            case hQd76 => exact fun _ _ _ h => h
            case hyd76 =>
              refine Or.inl ⟨by rfl, ?_⟩
              intro V hSV
              go_simp
              (try with_reducible rfl)
            try simp only [Act.put, List.setIfInBounds_toArray, List.set_cons_zero, List.set_cons_succ]
            refine wpAnyH_take (i := 13) (oi := ?oid77) (v := ?vd77) ?hod77 (by kernel_rfl) ?hfd77 ?hrd77 ?hQd77 ?hyd77 hHeld ?restd77
            case hod77 => (simp only [List.getElem?_toArray, List.getElem?_cons_succ, List.getElem?_cons_zero]; exact rfl)
            case hfd77 => kernel_rfl
            case hrd77 => kernel_rfl
            case hQd77 => exact fun _ _ _ h => h
            case hyd77 =>
              refine Or.inl ⟨by rfl, ?_⟩
              intro V hSV
              go_simp
              (try with_reducible rfl)
            try simp only [Act.put, List.setIfInBounds_toArray, List.set_cons_zero, List.set_cons_succ]
            refine wpAnyH_take (i := 14) (oi := ?oid78) (v := ?vd78) ?hod78 (by kernel_rfl) ?hfd78 ?hrd78 ?hQd78 ?hyd78 hHeld ?restd78
            case hod78 => (simp only [List.getElem?_toArray, List.getElem?_cons_succ, List.getElem?_cons_zero]; exact rfl)
            case hfd78 => kernel_rfl
            case hrd78 => kernel_rfl
            case hQd78 => exact fun _ _ _ h => h
            case hyd78 =>
              refine Or.inl ⟨by rfl, ?_⟩
              intro V hSV
              go_simp
              (try with_reducible rfl)
            try simp only [Act.put, List.setIfInBounds_toArray, List.set_cons_zero, List.set_cons_succ]
            refine wpAnyH_take (i := 15) (oi := ?oid79) (v := ?vd79) ?hod79 (by kernel_rfl) ?hfd79 ?hrd79 ?hQd79 ?hyd79 hHeld ?restd79
            case hod79 => (simp only [List.getElem?_toArray, List.getElem?_cons_succ, List.getElem?_cons_zero]; exact rfl)
            case hfd79 => kernel_rfl
            case hrd79 => kernel_rfl
            case hQd79 => exact fun _ _ _ h => h
            case hyd79 =>
              refine Or.inl ⟨by rfl, ?_⟩
              intro V hSV
              have q1 := (Below.cell hSV (p := ⟨b, _, none⟩) hbb).trans hc1
              have q2 := (Below.cell hSV (p := ⟨b, _, none⟩) hbb).trans hc2
              have q3 := (Below.cell hSV (p := ⟨b, _, none⟩) hbb).trans hc3
              have q4 := (Below.cell hSV (p := ⟨b, _, none⟩) hbb).trans hc4
              have q5 := (Below.cell hSV (p := ⟨b, _, none⟩) hbb).trans hc5
              go_simp
              (try with_reducible rfl)
            try simp only [Act.put, List.setIfInBounds_toArray, List.set_cons_zero, List.set_cons_succ]
            refine wpAnyH_ready (rs := [7]) (by kernel_rfl) (by simp) ?_
            refine AllReadyH.cons (o := ?od80) ?hod80 (fun K hK => ?kd80) ?md80
            case hod80 => (simp only [List.getElem?_toArray, List.getElem?_cons_succ, List.getElem?_cons_zero]; exact rfl)
            case kd80 =>
              go_simp
              refine (rBit_any g _).mono ?_
              rintro e w7 ⟨rfl, rfl⟩
              (try dsimp only)
              rw [hzb]
              refine hK.out _ _ ?_ (fun hHeld => ?_)
              · exact (show Below U.heap.size U _ from hHeld)
              clear hK K
              try simp only [Act.put, List.setIfInBounds_toArray, List.set_cons_zero, List.set_cons_succ]
              refine wpAnyH_ready (rs := [8]) (by kernel_rfl) (by simp) ?_
              refine AllReadyH.cons (o := ?od81) ?hod81 (fun K hK => ?kd81) ?md81
              case hod81 => (simp only [List.getElem?_toArray, List.getElem?_cons_succ, List.getElem?_cons_zero]; exact rfl)
              case kd81 =>
                refine anyd_lit8 (by rfl) (.tmp 28) zb (by rfl) (by rfl) ?_
                intro V8 q8 hr8 hb8
                have ho8 := ownBelow (World.ownsRow.drew HO.out) hb8 (Nat.le_refl _)
                refine hK.out _ _ ?_ (fun hHeld => ?_)
                · exact Below.trans (show Below U.heap.size U _ from hHeld) (hb8.mono (Below.size (show Below U.heap.size U _ from hHeld)))
                clear hK K
                try simp only [Act.put, List.setIfInBounds_toArray, List.set_cons_zero, List.set_cons_succ]
                refine wpAnyH_ready (rs := [9]) (by kernel_rfl) (by simp) ?_
                refine AllReadyH.cons (o := ?od82) ?hod82 (fun K hK => ?kd82) ?md82
                case hod82 => (simp only [List.getElem?_toArray, List.getElem?_cons_succ, List.getElem?_cons_zero]; exact rfl)
                case kd82 =>
                  refine anyd_app8h (by rfl) (.tmp 21) (.tmp 29) (by rfl) U.heap.size A' c' m _ (by rfl) ho8 _ _ 1 1 [zb] (by rfl) hr8 (by omega) (Below.size (show Below U.heap.size U _ from hHeld)) ?_
                  intro A9' c9' V9' ho9 hb9
                  refine hK.out _ _ ?_ (fun hHeld => ?_)
                  · exact Below.trans (show Below U.heap.size U _ from hHeld) hb9
                  clear hK K
                  try simp only [Act.put, List.setIfInBounds_toArray, List.set_cons_zero, List.set_cons_succ]
                  refine wpAnyH_ready (rs := [16]) (by kernel_rfl) (by simp) ?_
                  refine AllReadyH.cons (o := ?od83) ?hod83 (fun K hK => ?kd83) ?md83
                  case hod83 => (simp only [List.getElem?_toArray, List.getElem?_cons_succ, List.getElem?_cons_zero]; exact rfl)
                  case kd83 =>
                    go_simp
                    refine (rSayB_any s x q Ai ni ci l2 _ ((hrow.below (show Below U.heap.size U _ from hHeld)).more (Below.size (show Below U.heap.size U _ from hHeld))) (by omega)).mono ?_
                    rintro e V5 ⟨A5, m5, c5, rfl, ho5, hb5⟩
                    have hm5 : m5 ≤ 6000 := by have h1 := sayB_lenG s x q l2 (Nat.le_refl _); have h2 := Ow.len ho5; omega
                    have hx5 := Ow.rd ho5
                    have ho9 := ownBelow ho9 hb5 (Nat.le_refl _)
                    (try dsimp only)
                    refine hK.out _ _ ?_ (fun hHeld => ?_)
                    · exact Below.trans (show Below U.heap.size U _ from hHeld) (hb5.mono (Below.size (show Below U.heap.size U _ from hHeld)))
                    clear hK K
                    try simp only [Act.put, List.setIfInBounds_toArray, List.set_cons_zero, List.set_cons_succ]
                    refine wpAnyH_ready (rs := [17]) (by kernel_rfl) (by simp) ?_
                    refine AllReadyH.cons (o := ?od84) ?hod84 (fun K hK => ?kd84) ?md84
                    case hod84 => (simp only [List.getElem?_toArray, List.getElem?_cons_succ, List.getElem?_cons_zero]; exact rfl)
                    case kd84 =>
                      refine anyd_app8h (by rfl) (.tmp 30) (.tmp 37) (by rfl) U.heap.size A9' c9' (m + 1) _ (by rfl) ho9 _ _ m5 c5 _ (by rfl) hx5 (by omega) (Below.size (show Below U.heap.size U _ from hHeld)) ?_
                      intro A6 c6 V6 ho6 hb6
                      refine hK.out _ _ ?_ (fun hHeld => ?_)
                      · exact Below.trans (show Below U.heap.size U _ from hHeld) hb6
                      clear hK K
                      try simp only [Act.put, List.setIfInBounds_toArray, List.set_cons_zero, List.set_cons_succ]
                      refine wpAnyH_take (i := 18) (oi := ?oid85) (v := ?vd85) ?hod85 (by kernel_rfl) ?hfd85 ?hrd85 ?hQd85 ?hyd85 hHeld ?restd85
                      case hod85 => (simp only [List.getElem?_toArray, List.getElem?_cons_succ, List.getElem?_cons_zero]; exact rfl)
                      case hfd85 => kernel_rfl
                      case hrd85 => kernel_rfl
                      case hQd85 => exact fun _ _ _ h => h
                      case hyd85 =>
                        refine Or.inl ⟨by rfl, ?_⟩
                        intro V hSV
                        go_simp
                        (try with_reducible rfl)
                      try simp only [Act.put, List.setIfInBounds_toArray, List.set_cons_zero, List.set_cons_succ]
                      refine wpAnyH_done (by kernel_rfl) ?_ _
                      have hv6 : Below U.heap.size U V6 := hHeld
                      clear hHeld hr8 ho8 ho9 hb9 hx5 hb5 hb6 hb8
                      have HO6 := Lib.hid ho6
                      have HV6 := Lib.hid hv6
                      clear ho6 hv6
                      repeat (first | go_skip | go_guarded | go_step)
                      go_roundw
                      case rel => exact ⟨i + 1, A6, m + 1 + m5, c6, by omega, rfl, by go_num, by rw [HTK.out, ← List.append_assoc, ← List.append_assoc]; exact HO6.out, by omega, HV6.out⟩
                      case measure => simp [intOf] <;> omega
                    exact AllReadyH.nil
                  exact AllReadyH.nil
                exact AllReadyH.nil
              exact AllReadyH.nil
            exact AllReadyH.nil
          · obtain rfl : i = n1 := by omega
            have HFIN := Lib.hid ho
            clear ho hbr
            repeat (first | go_skip | go_guarded | go_step)
            go_ret
            refine ⟨A', m, c', rfl, ?_, HB.out.trans (HBR.out.mono HB.out.size)⟩
            have h := ownLower HFIN.out (show hb ≤ U.heap.size by have := HB.out.size; omega)
            rw [List.take_of_length_le (by have := HL1.out; omega)] at h
            rw [hhb]
            have e : ruleB ((s0, x0, (p, l)), L) = sayB (s0, x0, (p, l)) ++ [z] ++ L.flatMap condB := by
              show sayB (s0, x0, (p, l)) ++ (UInt8.ofNat L.length :: L.flatMap condB) = _
              rw [HL1.out, ← HZ.out, List.append_assoc]
              rfl
            rw [e]
            exact h
      exact AllReadyH.nil
    exact AllReadyH.nil
  refine AllReadyH.cons (o := ?od63) ?hod63 (fun K hK => ?kd63) ?md63
  case hod63 => (simp only [List.getElem?_toArray, List.getElem?_cons_succ, List.getElem?_cons_zero]; exact rfl)
  case kd63 =>
    refine anyd_lit8 (by rfl) (.tmp 11) z (by rfl) (by rfl) ?_
    intro V8 q8 hr8 hb8
    refine hK.out _ _ ?_ (fun hHeld => ?_)
    · exact Below.trans (show Below U.heap.size U _ from hHeld) (hb8.mono (Below.size (show Below U.heap.size U _ from hHeld)))
    clear hK K
    try simp only [Act.put, List.setIfInBounds_toArray, List.set_cons_zero, List.set_cons_succ]
    refine wpAnyH_ready (rs := [2]) (by kernel_rfl) (by simp) ?_
    refine AllReadyH.cons (o := ?od64) ?hod64 (fun K hK => ?kd64) ?md64
    case hod64 => (simp only [List.getElem?_toArray, List.getElem?_cons_succ, List.getElem?_cons_zero]; exact rfl)
    case kd64 =>
      go_simp
      refine (rSayB_any s0 x0 p A n c l _ ((HR.out.below (show Below U.heap.size U _ from hHeld)).more (Below.size (show Below U.heap.size U _ from hHeld))) (by omega)).mono ?_
      rintro e V3 ⟨A3, m3, c3, rfl, ho3, hb3⟩
      have ho3 := ownLower ho3 (show U.heap.size ≤ _ from Below.size (show Below U.heap.size U _ from hHeld))
      (try dsimp only)
      have hr8 := (hr8.below hb3).more hb3.size
      refine hK.out _ _ ?_ (fun hHeld => ?_)
      · exact Below.trans (show Below U.heap.size U _ from hHeld) (hb3.mono (Below.size (show Below U.heap.size U _ from hHeld)))
      clear hK K
      try simp only [Act.put, List.setIfInBounds_toArray, List.set_cons_zero, List.set_cons_succ]
      refine wpAnyH_ready (rs := [8]) (by kernel_rfl) (by simp) ?_
      refine AllReadyH.cons (o := ?od65) ?hod65 (fun K hK => ?kd65) ?md65
      case hod65 => (simp only [List.getElem?_toArray, List.getElem?_cons_succ, List.getElem?_cons_zero]; exact rfl)
      case kd65 =>
        refine anyd_app8h (by rfl) (.tmp 7) (.tmp 12) (by rfl) U.heap.size A3 c3 m3 _ (by rfl) ho3 _ _ 1 1 [z] (by rfl) hr8 (by have h1 := sayB_lenG s0 x0 p l (Nat.le_of_eq HL.out); have h2 := Ow.len ho3; omega) (Below.size (show Below U.heap.size U _ from hHeld)) ?_
        intro A9 c9 V9 ho9 hb9
        refine hK.out _ _ ?_ (fun hHeld => ?_)
        · exact Below.trans (show Below U.heap.size U _ from hHeld) hb9
        clear hK K
        try simp only [Act.put, List.setIfInBounds_toArray, List.set_cons_zero, List.set_cons_succ]
        refine wpAnyH_take (i := 9) (oi := ?oid66) (v := ?vd66) ?hod66 (by kernel_rfl) ?hfd66 ?hrd66 ?hQd66 ?hyd66 hHeld ?restd66
        case hod66 => (simp only [List.getElem?_toArray, List.getElem?_cons_succ, List.getElem?_cons_zero]; exact rfl)
        case hfd66 => kernel_rfl
        case hrd66 => kernel_rfl
        case hQd66 => exact fun _ _ _ h => h
        case hyd66 =>
          refine Or.inl ⟨by rfl, ?_⟩
          intro V hSV
          go_simp
          (try with_reducible rfl)
        try simp only [Act.put, List.setIfInBounds_toArray, List.set_cons_zero, List.set_cons_succ]
        refine wpAnyH_done (by kernel_rfl) ?_ _
        have hv : Below U.heap.size U V9 := hHeld
        clear hHeld hr8 ho3 hb9
        try clear hb3
        try clear hb8
        have hm3 : m3 + 1 ≤ 10000 := by have h1 := sayB_lenG s0 x0 p l (Nat.le_of_eq HL.out); have h2 := Ow.len ho9; simp only [List.length_append, List.length_cons, List.length_nil] at h2; omega
        have HO9 := Lib.hid ho9
        have HV := Lib.hid hv
        clear ho9 hv
        repeat (first | go_skip | go_guarded | go_step)
        go_loopw [3, 4] (fun b' i' wr => ∃ (i : Nat) (A' : Option Addr) (m c' : Nat), i ≤ n1 ∧ b' = .slice A' m c' ∧ i' = .int .i64 (i : Int) ∧ Ow wr U.heap.size A' c' m (sayB (s0, x0, (p, l)) ++ [z] ++ (L.take i).flatMap condB) ∧ m ≤ 10000 + 10000 * i ∧ Below U.heap.size U wr) (fun _ i _ => n1 - (intOf i).toNat)
        case atStart => exact ⟨0, A9, m3 + 1, c9, Nat.zero_le _, rfl, rfl, by simpa using HO9.out, by omega, HV.out⟩
        case round =>
          obtain ⟨i, A', m, c', hi, rfl, rfl, ho, hmi, hbr⟩ := hrel
          have HO := Lib.hid ho
          have HBR := Lib.hid hbr
          have hus := hbr.size
          have k1 := HH.out.readT hbr 5 rfl
          by_cases hlt : i < n1
          · have hci : (i : Int) < (n1 : Int) := by omega
            obtain ⟨b, o, g, s, x, q, l2, Ai, ni, ci, hA, hbb, hx, hc0, hc1, hc2, hc3, hc4, hc5, hrow⟩ := HR1.out.at_ hlt
            have hil : i < L.length := by rw [HL1.out]; exact hlt
            have hxe : L[i] = (g, s, x, q, l2) := by rw [List.getElem?_eq_getElem hil] at hx; exact Option.some.inj hx
            have hni : ni ≤ 1000 := by have h3 := HK.out _ (List.mem_of_getElem? hx); have h4 := rdT_len hrow; simp only at h3; omega
            have hll := rdT_len hrow
            subst hA
            obtain ⟨zb, hzb, hbit⟩ := bitB_one g
            have htk : (L.take (i + 1)).flatMap condB = (L.take i).flatMap condB ++ ([zb] ++ sayB (s, x, (q, l2))) := by
              rw [List.take_succ_eq_append_getElem hil, List.flatMap_append, hxe, ← hbit]
              simp [condB]
            have HTK := Lib.hid htk
            clear ho hbr hx htk hil hxe hbit
            repeat (first | go_skip | go_guarded | go_step)
            refine wp_region_held_drew (S := fun V => Below U.heap.size U V) (by kernel_rfl) ?_ (fun hHeld => ?_)
            · exact HBR.out.drew
            refine wpAnyH_take (i := 0) (oi := ?oid86) (v := ?vd86) ?hod86 (by kernel_rfl) ?hfd86 ?hrd86 ?hQd86 ?hyd86 hHeld ?restd86
            case hod86 => (simp only [List.getElem?_toArray, List.getElem?_cons_succ, List.getElem?_cons_zero]; exact rfl)
            case hfd86 => kernel_rfl
            case hrd86 => kernel_rfl
            case hQd86 => exact fun _ _ _ h => h
            case hyd86 =>
              refine Or.inl ⟨by rfl, ?_⟩
              intro V hSV
              go_simp
              (try with_reducible rfl)
            try simp only [Act.put, List.setIfInBounds_toArray, List.set_cons_zero, List.set_cons_succ]
            refine wpAnyH_take (i := 1) (oi := ?oid87) (v := ?vd87) ?hod87 (by kernel_rfl) ?hfd87 ?hrd87 ?hQd87 ?hyd87 hHeld ?restd87
            case hod87 => (simp only [List.getElem?_toArray, List.getElem?_cons_succ, List.getElem?_cons_zero]; exact rfl)
            case hfd87 => kernel_rfl
            case hrd87 => kernel_rfl
            case hQd87 => exact fun _ _ _ h => h
            case hyd87 =>
              refine Or.inl ⟨by rfl, ?_⟩
              intro V hSV
              go_simp
              (try with_reducible rfl)
            try simp only [Act.put, List.setIfInBounds_toArray, List.set_cons_zero, List.set_cons_succ]
            refine wpAnyH_take (i := 2) (oi := ?oid88) (v := ?vd88) ?hod88 (by kernel_rfl) ?hfd88 ?hrd88 ?hQd88 ?hyd88 hHeld ?restd88
            case hod88 => (simp only [List.getElem?_toArray, List.getElem?_cons_succ, List.getElem?_cons_zero]; exact rfl)
            case hfd88 => kernel_rfl
            case hrd88 => kernel_rfl
            case hQd88 => exact fun _ _ _ h => h
            case hyd88 =>
              refine Or.inl ⟨by rfl, ?_⟩
              intro V hSV
              have q := HH.out.readT hSV 5 rfl
              go_simp
              (try with_reducible rfl)
            try simp only [Act.put, List.setIfInBounds_toArray, List.set_cons_zero, List.set_cons_succ]
            refine wpAnyH_take (i := 3) (oi := ?oid89) (v := ?vd89) ?hod89 (by kernel_rfl) ?hfd89 ?hrd89 ?hQd89 ?hyd89 hHeld ?restd89
            case hod89 => (simp only [List.getElem?_toArray, List.getElem?_cons_succ, List.getElem?_cons_zero]; exact rfl)
            case hfd89 => kernel_rfl
            case hrd89 => kernel_rfl
            case hQd89 => exact fun _ _ _ h => h
            case hyd89 =>
              refine Or.inl ⟨by rfl, ?_⟩
              intro V hSV
              go_simp
              (try with_reducible rfl)
            try simp only [Act.put, List.setIfInBounds_toArray, List.set_cons_zero, List.set_cons_succ]
            refine wpAnyH_take (i := 4) (oi := ?oid90) (v := ?vd90) ?hod90 (by kernel_rfl) ?hfd90 ?hrd90 ?hQd90 ?hyd90 hHeld ?restd90
            case hod90 => (simp only [List.getElem?_toArray, List.getElem?_cons_succ, List.getElem?_cons_zero]; exact rfl)
            case hfd90 => kernel_rfl
            case hrd90 => kernel_rfl
            case hQd90 => exact fun _ _ _ h => h
            case hyd90 =>
              refine Or.inl ⟨by rfl, ?_⟩
              intro V hSV
              go_simp
              (try with_reducible rfl)
            try simp only [Act.put, List.setIfInBounds_toArray, List.set_cons_zero, List.set_cons_succ]
            refine wpAnyH_take (i := 5) (oi := ?oid91) (v := ?vd91) ?hod91 (by kernel_rfl) ?hfd91 ?hrd91 ?hQd91 ?hyd91 hHeld ?restd91
            case hod91 => (simp only [List.getElem?_toArray, List.getElem?_cons_succ, List.getElem?_cons_zero]; exact rfl)
            case hfd91 => kernel_rfl
            case hrd91 => kernel_rfl
            case hQd91 => exact fun _ _ _ h => h
            case hyd91 =>
              refine Or.inl ⟨by rfl, ?_⟩
              intro V hSV
              go_simp
              (try with_reducible rfl)
            try simp only [Act.put, List.setIfInBounds_toArray, List.set_cons_zero, List.set_cons_succ]
            refine wpAnyH_take (i := 6) (oi := ?oid92) (v := ?vd92) ?hod92 (by kernel_rfl) ?hfd92 ?hrd92 ?hQd92 ?hyd92 hHeld ?restd92
            case hod92 => (simp only [List.getElem?_toArray, List.getElem?_cons_succ, List.getElem?_cons_zero]; exact rfl)
            case hfd92 => kernel_rfl
            case hrd92 => kernel_rfl
            case hQd92 => exact fun _ _ _ h => h
            case hyd92 =>
              refine Or.inl ⟨by rfl, ?_⟩
              intro V hSV
              have q := (Below.cell hSV (p := ⟨b, _, none⟩) hbb).trans hc0
              go_simp
              (try with_reducible rfl)
            try simp only [Act.put, List.setIfInBounds_toArray, List.set_cons_zero, List.set_cons_succ]
            refine wpAnyH_take (i := 10) (oi := ?oid93) (v := ?vd93) ?hod93 (by kernel_rfl) ?hfd93 ?hrd93 ?hQd93 ?hyd93 hHeld ?restd93
            case hod93 => (simp only [List.getElem?_toArray, List.getElem?_cons_succ, List.getElem?_cons_zero]; exact rfl)
            case hfd93 => kernel_rfl
            case hrd93 => kernel_rfl
            case hQd93 => exact fun _ _ _ h => h
            case hyd93 =>
              refine Or.inl ⟨by rfl, ?_⟩
              intro V hSV
              go_simp
              (try with_reducible rfl)
            try simp only [Act.put, List.setIfInBounds_toArray, List.set_cons_zero, List.set_cons_succ]
            refine wpAnyH_take (i := 11) (oi := ?oid94) (v := ?vd94) ?hod94 (by kernel_rfl) ?hfd94 ?hrd94 ?hQd94 ?hyd94 hHeld ?restd94
            case hod94 => (simp only [List.getElem?_toArray, List.getElem?_cons_succ, List.getElem?_cons_zero]; exact rfl)
            case hfd94 => kernel_rfl
            case hrd94 => kernel_rfl
            case hQd94 => exact fun _ _ _ h => h
            case hyd94 =>
              refine Or.inl ⟨by rfl, ?_⟩
              intro V hSV
              have q := HH.out.readT hSV 5 rfl
              go_simp
              (try with_reducible rfl)
            try simp only [Act.put, List.setIfInBounds_toArray, List.set_cons_zero, List.set_cons_succ]
            refine wpAnyH_take (i := 12) (oi := ?oid95) (v := ?vd95) ?hod95 (by kernel_rfl) ?hfd95 ?hrd95 ?hQd95 ?hyd95 hHeld ?restd95
            case hod95 => (simp only [List.getElem?_toArray, List.getElem?_cons_succ, List.getElem?_cons_zero]; exact rfl)
            case hfd95 => kernel_rfl
            case hrd95 => kernel_rfl
            case hQd95 => exact fun _ _ _ h => h
            case hyd95 =>
              refine Or.inl ⟨by rfl, ?_⟩
              intro V hSV
              go_simp
              (try with_reducible rfl)
            try simp only [Act.put, List.setIfInBounds_toArray, List.set_cons_zero, List.set_cons_succ]
            refine wpAnyH_take (i := 13) (oi := ?oid96) (v := ?vd96) ?hod96 (by kernel_rfl) ?hfd96 ?hrd96 ?hQd96 ?hyd96 hHeld ?restd96
            case hod96 => (simp only [List.getElem?_toArray, List.getElem?_cons_succ, List.getElem?_cons_zero]; exact rfl)
            case hfd96 => kernel_rfl
            case hrd96 => kernel_rfl
            case hQd96 => exact fun _ _ _ h => h
            case hyd96 =>
              refine Or.inl ⟨by rfl, ?_⟩
              intro V hSV
              go_simp
              (try with_reducible rfl)
            try simp only [Act.put, List.setIfInBounds_toArray, List.set_cons_zero, List.set_cons_succ]
            refine wpAnyH_take (i := 14) (oi := ?oid97) (v := ?vd97) ?hod97 (by kernel_rfl) ?hfd97 ?hrd97 ?hQd97 ?hyd97 hHeld ?restd97
            case hod97 => (simp only [List.getElem?_toArray, List.getElem?_cons_succ, List.getElem?_cons_zero]; exact rfl)
            case hfd97 => kernel_rfl
            case hrd97 => kernel_rfl
            case hQd97 => exact fun _ _ _ h => h
            case hyd97 =>
              refine Or.inl ⟨by rfl, ?_⟩
              intro V hSV
              go_simp
              (try with_reducible rfl)
            try simp only [Act.put, List.setIfInBounds_toArray, List.set_cons_zero, List.set_cons_succ]
            refine wpAnyH_take (i := 15) (oi := ?oid98) (v := ?vd98) ?hod98 (by kernel_rfl) ?hfd98 ?hrd98 ?hQd98 ?hyd98 hHeld ?restd98
            case hod98 => (simp only [List.getElem?_toArray, List.getElem?_cons_succ, List.getElem?_cons_zero]; exact rfl)
            case hfd98 => kernel_rfl
            case hrd98 => kernel_rfl
            case hQd98 => exact fun _ _ _ h => h
            case hyd98 =>
              refine Or.inl ⟨by rfl, ?_⟩
              intro V hSV
              have q1 := (Below.cell hSV (p := ⟨b, _, none⟩) hbb).trans hc1
              have q2 := (Below.cell hSV (p := ⟨b, _, none⟩) hbb).trans hc2
              have q3 := (Below.cell hSV (p := ⟨b, _, none⟩) hbb).trans hc3
              have q4 := (Below.cell hSV (p := ⟨b, _, none⟩) hbb).trans hc4
              have q5 := (Below.cell hSV (p := ⟨b, _, none⟩) hbb).trans hc5
              go_simp
              (try with_reducible rfl)
            try simp only [Act.put, List.setIfInBounds_toArray, List.set_cons_zero, List.set_cons_succ]
            refine wpAnyH_ready (rs := [7]) (by kernel_rfl) (by simp) ?_
            refine AllReadyH.cons (o := ?od99) ?hod99 (fun K hK => ?kd99) ?md99
            case hod99 => (simp only [List.getElem?_toArray, List.getElem?_cons_succ, List.getElem?_cons_zero]; exact rfl)
            case kd99 =>
              go_simp
              refine (rBit_any g _).mono ?_
              rintro e w7 ⟨rfl, rfl⟩
              (try dsimp only)
              rw [hzb]
              refine hK.out _ _ ?_ (fun hHeld => ?_)
              · exact (show Below U.heap.size U _ from hHeld)
              clear hK K
              try simp only [Act.put, List.setIfInBounds_toArray, List.set_cons_zero, List.set_cons_succ]
              refine wpAnyH_ready (rs := [8]) (by kernel_rfl) (by simp) ?_
              refine AllReadyH.cons (o := ?od100) ?hod100 (fun K hK => ?kd100) ?md100
              case hod100 => (simp only [List.getElem?_toArray, List.getElem?_cons_succ, List.getElem?_cons_zero]; exact rfl)
              case kd100 =>
                refine anyd_lit8 (by rfl) (.tmp 28) zb (by rfl) (by rfl) ?_
                intro V8 q8 hr8 hb8
                have ho8 := ownBelow (World.ownsRow.drew HO.out) hb8 (Nat.le_refl _)
                refine hK.out _ _ ?_ (fun hHeld => ?_)
                · exact Below.trans (show Below U.heap.size U _ from hHeld) (hb8.mono (Below.size (show Below U.heap.size U _ from hHeld)))
                clear hK K
                try simp only [Act.put, List.setIfInBounds_toArray, List.set_cons_zero, List.set_cons_succ]
                refine wpAnyH_ready (rs := [9]) (by kernel_rfl) (by simp) ?_
                refine AllReadyH.cons (o := ?od101) ?hod101 (fun K hK => ?kd101) ?md101
                case hod101 => (simp only [List.getElem?_toArray, List.getElem?_cons_succ, List.getElem?_cons_zero]; exact rfl)
                case kd101 =>
                  refine anyd_app8h (by rfl) (.tmp 21) (.tmp 29) (by rfl) U.heap.size A' c' m _ (by rfl) ho8 _ _ 1 1 [zb] (by rfl) hr8 (by omega) (Below.size (show Below U.heap.size U _ from hHeld)) ?_
                  intro A9' c9' V9' ho9 hb9
                  refine hK.out _ _ ?_ (fun hHeld => ?_)
                  · exact Below.trans (show Below U.heap.size U _ from hHeld) hb9
                  clear hK K
                  try simp only [Act.put, List.setIfInBounds_toArray, List.set_cons_zero, List.set_cons_succ]
                  refine wpAnyH_ready (rs := [16]) (by kernel_rfl) (by simp) ?_
                  refine AllReadyH.cons (o := ?od102) ?hod102 (fun K hK => ?kd102) ?md102
                  case hod102 => (simp only [List.getElem?_toArray, List.getElem?_cons_succ, List.getElem?_cons_zero]; exact rfl)
                  case kd102 =>
                    go_simp
                    refine (rSayB_any s x q Ai ni ci l2 _ ((hrow.below (show Below U.heap.size U _ from hHeld)).more (Below.size (show Below U.heap.size U _ from hHeld))) (by omega)).mono ?_
                    rintro e V5 ⟨A5, m5, c5, rfl, ho5, hb5⟩
                    have hm5 : m5 ≤ 6000 := by have h1 := sayB_lenG s x q l2 (Nat.le_refl _); have h2 := Ow.len ho5; omega
                    have hx5 := Ow.rd ho5
                    have ho9 := ownBelow ho9 hb5 (Nat.le_refl _)
                    (try dsimp only)
                    refine hK.out _ _ ?_ (fun hHeld => ?_)
                    · exact Below.trans (show Below U.heap.size U _ from hHeld) (hb5.mono (Below.size (show Below U.heap.size U _ from hHeld)))
                    clear hK K
                    try simp only [Act.put, List.setIfInBounds_toArray, List.set_cons_zero, List.set_cons_succ]
                    refine wpAnyH_ready (rs := [17]) (by kernel_rfl) (by simp) ?_
                    refine AllReadyH.cons (o := ?od103) ?hod103 (fun K hK => ?kd103) ?md103
                    case hod103 => (simp only [List.getElem?_toArray, List.getElem?_cons_succ, List.getElem?_cons_zero]; exact rfl)
                    case kd103 =>
                      refine anyd_app8h (by rfl) (.tmp 30) (.tmp 37) (by rfl) U.heap.size A9' c9' (m + 1) _ (by rfl) ho9 _ _ m5 c5 _ (by rfl) hx5 (by omega) (Below.size (show Below U.heap.size U _ from hHeld)) ?_
                      intro A6 c6 V6 ho6 hb6
                      refine hK.out _ _ ?_ (fun hHeld => ?_)
                      · exact Below.trans (show Below U.heap.size U _ from hHeld) hb6
                      clear hK K
                      try simp only [Act.put, List.setIfInBounds_toArray, List.set_cons_zero, List.set_cons_succ]
                      refine wpAnyH_take (i := 18) (oi := ?oid104) (v := ?vd104) ?hod104 (by kernel_rfl) ?hfd104 ?hrd104 ?hQd104 ?hyd104 hHeld ?restd104
                      case hod104 => (simp only [List.getElem?_toArray, List.getElem?_cons_succ, List.getElem?_cons_zero]; exact rfl)
                      case hfd104 => kernel_rfl
                      case hrd104 => kernel_rfl
                      case hQd104 => exact fun _ _ _ h => h
                      case hyd104 =>
                        refine Or.inl ⟨by rfl, ?_⟩
                        intro V hSV
                        go_simp
                        (try with_reducible rfl)
                      try simp only [Act.put, List.setIfInBounds_toArray, List.set_cons_zero, List.set_cons_succ]
                      refine wpAnyH_done (by kernel_rfl) ?_ _
                      have hv6 : Below U.heap.size U V6 := hHeld
                      clear hHeld hr8 ho8 ho9 hb9 hx5 hb5 hb6 hb8
                      have HO6 := Lib.hid ho6
                      have HV6 := Lib.hid hv6
                      clear ho6 hv6
                      repeat (first | go_skip | go_guarded | go_step)
                      go_roundw
                      case rel => exact ⟨i + 1, A6, m + 1 + m5, c6, by omega, rfl, by go_num, by rw [HTK.out, ← List.append_assoc, ← List.append_assoc]; exact HO6.out, by omega, HV6.out⟩
                      case measure => simp [intOf] <;> omega
                    exact AllReadyH.nil
                  exact AllReadyH.nil
                exact AllReadyH.nil
              exact AllReadyH.nil
            exact AllReadyH.nil
          · obtain rfl : i = n1 := by omega
            have HFIN := Lib.hid ho
            clear ho hbr
            repeat (first | go_skip | go_guarded | go_step)
            go_ret
            refine ⟨A', m, c', rfl, ?_, HB.out.trans (HBR.out.mono HB.out.size)⟩
            have h := ownLower HFIN.out (show hb ≤ U.heap.size by have := HB.out.size; omega)
            rw [List.take_of_length_le (by have := HL1.out; omega)] at h
            rw [hhb]
            have e : ruleB ((s0, x0, (p, l)), L) = sayB (s0, x0, (p, l)) ++ [z] ++ L.flatMap condB := by
              show sayB (s0, x0, (p, l)) ++ (UInt8.ofNat L.length :: L.flatMap condB) = _
              rw [HL1.out, ← HZ.out, List.append_assoc]
              rfl
            rw [e]
            exact h
      exact AllReadyH.nil
    exact AllReadyH.nil
  exact AllReadyH.nil

end Go.Proofs.Ytcoafgnbmgndeaa
