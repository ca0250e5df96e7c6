/- Texts, packed: PaE -/
import Derived.Test.YtoigpbajefkpoaaGreatDoorPxE
import Derived.Deep.RegionHeld3
import Derived.StillTailTactics
import Derived.StillTail
import Derived.KernelRfl
set_option linter.unusedVariables false
set_option linter.unusedSimpArgs false
namespace Go.Proofs.YtoigpbajefkpoaaGreatDoor
open Go Go.RowKit

/-- What an append onto the parser's names, or its variables, leaves: the words, the other row, the parser's own block. -/
theorem rowGrown {w w' : World} {base g : Nat} {AW : Option Addr} {nW cW : Nat} {ws : List Wd} {A A2 A' : Option Addr} {n n2 c c2 n' c' : Nat} {l l2 : List ByteArray} {cs : List Value}
  (hb : Bk w g PT cs) (hw : OwV 127 w base AW cW nW ws) (h1 : OwS w base A c n l) (h2 : OwS w base A2 c2 n2 l2) (hne : ∀ b, (Value.slice A n c).ownBlock = some b → (Value.slice A2 n2 c2).ownBlock ≠ some b)
  (hg : w.grownBy w' (Value.slice A n c).ownBlock) (hid : (Value.slice A' n' c').ownBlock = (Value.slice A n c).ownBlock ∨ (Value.slice A' n' c').ownBlock = some w.heap.size) (hbase : base ≤ w.heap.size) :
  Bk w' g PT cs ∧ OwV 127 w' base AW cW nW ws ∧ OwS w' base A2 c2 n2 l2 ∧ (∀ b, (Value.slice A' n' c').ownBlock = some b → (Value.slice A2 n2 c2).ownBlock ≠ some b) ∧ Kp base g w w' := by
 have hf := own_far h1 hb (by decide)
 have hlt := hb.lt
 have hk : KeptS g w w' := Lib.OthersKept.grown (Lib.OthersKept.refl _ _ _) hg (fun q hq => by
  rcases h1.2 with ⟨e, _⟩ | ⟨g', cap, cur, e, _, hc, _⟩
  ·
   rw [e] at hq; simp [Value.ownBlock] at hq
  ·
   rw [e] at hq; simp only [Value.ownBlock, Option.some.injEq] at hq; subst hq; exact ⟨_, _, hc⟩)
 have hB : Below base w w' := (Below.refl base w).grown hg hbase (fun k hk => (h1.lt k hk).1)
 have hkp : Kp base g w w' := ⟨hB, hk⟩
 refine ⟨(hg.block g hlt (fun e => hf e.symm)).trans hb, hkp.own hw hb (by decide) (by decide), ?_, ?_, hkp⟩
 ·
  refine World.ownsRow.kept h2 hg ?_
  rcases h2.2 with ⟨e, _⟩ | ⟨g', cap, cur, e, _⟩
  ·
   exact Or.inl (by rw [e]; rfl)
  ·
   refine Or.inr ?_
   rw [e]
   intro e2
   exact hne g' (by rw [← e2]; rfl) (by rw [e]; rfl)
 ·
  intro b hb1 hb2
  rcases hid with h | h
  ·
   exact hne b (by rw [← h]; exact hb1) hb2
  ·
   rw [h] at hb1
   have : b = w.heap.size := by simpa using hb1.symm
   have h3 := (h2.lt b hb2).2
   omega

set_option maxRecDepth 100000 in
set_option maxHeartbeats 8000000 in
theorem pName_any (base g : Nat) (ws : List Wd) (sz : Nat) (x : Except PE PS) (w : World) (h : PSt w base g ws sz x) :
  Calls Tryz.prog 105 #[.pointer (some ⟨g, 0, none⟩)] w fun e w' => ∃ n : Nat, e = .returned (.int .u32 (n : Int)) ∧ n < 4294967296 ∧ PSt w' base g ws sz (goE x (nameE sz)) ∧ ansE x (nameE sz) n ∧ Kp base g w w' := by
 obtain ⟨AW, nW, cW, k, AN, nN, cN, AV, nV, cV, e0, a0, names, vars, hg, hb, hw, hn, hv, hne, hk, hW, hN, hV, hst⟩ := h
 have c0 : w.cell? ⟨g, 0, none⟩ = some (.slice AW nW cW) := hb.cell 0
 have c1 : w.cell? ⟨g, 1, none⟩ = some (.int .i64 (k : Int)) := hb.cell 1
 have c3 : w.cell? ⟨g, 3, none⟩ = some (.slice AN nN cN) := hb.cell 3
 have c5 : w.cell? ⟨g, 5, none⟩ = some (.int .i64 (e0 : Int)) := hb.cell 5
 have f3 : w.frozen? ⟨g, 3, none⟩ = false := hb.frozen 3
 have hgl := hb.lt
 have hrw := OwV.rd hw
 have hrn : Rd w w.heap.size 1 AN nN (names.map sv) := Rd.ofOwn hn
 have hnl : names.length = nN := by simpa using hrn.len1
 have HKD := Lib.hid (fun q => by have h := pKind_any 0 ws (w.drewN q) hb hrw hk (by omega) (by omega); simp only [Nat.add_zero] at h; exact h)
 obtain ⟨kk, hkk⟩ : ∃ kk, kk = kindE (ws.drop k) := ⟨_, rfl⟩
 rw [← hkk] at HKD
 have HKK := Lib.hid hkk
 have HB := Lib.hid hb
 have HW := Lib.hid hw
 have HN := Lib.hid hn
 have HV := Lib.hid hv
 have HNE := Lib.hid hne
 have HST := Lib.hid hst
 have HRN := Lib.hid hrn
 have HNL := Lib.hid hnl
 clear hkk hb hw hn hv hne hrw hrn hnl hst
 cases x with
 | error z =>
  have HE := Lib.hid (show e0 ≠ 0 from HST.out.2.2)
  have de : ((e0 : Int) == 0) = false := by rw [beq_eq_false_iff_ne]; have := HE.out; omega
  by_cases h1 : kk = 1
  ·
   have dk : ((kk : Int) == 1) = true := by rw [h1]; rfl
   clear h1
   go_enter Tryz.func105, Tryz.ntmps105
   repeat (first | go_skip | go_guarded | go_step)
   refine wp_region_held_drew (S := fun V => ∃ q, V = w.drewN q) (by kernel_rfl) ?_ (fun hHeld => ?_)
   ·
    exact ⟨1, rfl⟩
   refine wpAnyH_take (i := 0) (oi := ?p1) (v := ?v1) ?a1 (by kernel_rfl) ?b1 ?c1 ?q1 ?y1 hHeld ?z1
   case a1 => (simp only [List.getElem?_toArray, List.getElem?_cons_succ, List.getElem?_cons_zero]; exact rfl)
   case b1 => kernel_rfl
   case c1 => kernel_rfl
   case q1 => exact fun _ _ _ h => h
   case y1 =>
    refine Or.inl ⟨by rfl, ?_⟩
    intro V hSV
    go_simp
    (try with_reducible rfl)
   try simp only [Act.put, List.setIfInBounds_toArray, List.set_cons_zero, List.set_cons_succ]
   refine wpAnyH_ready (rs := [1]) (by kernel_rfl) (by simp) ?_
   refine AllReadyH.cons (o := ?od2) ?hod2 (fun K hK => ?kd2) ?md2
   case hod2 => (simp only [List.getElem?_toArray, List.getElem?_cons_succ, List.getElem?_cons_zero]; exact rfl)
   case kd2 =>
    go_simp
    refine (HKD.out 1).mono ?_
    rintro e V ⟨rfl, q1, rfl⟩
    (try dsimp only)
    refine hK.out _ _ ?_ (fun hHeld => ?_)
    ·
     exact ⟨1 + q1, World.drewN_drewN _ _ _⟩
    clear hK K
    try simp only [Act.put, List.setIfInBounds_toArray, List.set_cons_zero, List.set_cons_succ]
    refine wpAnyH_take (i := 2) (oi := ?oid3) (v := .bool true) ?hod3 (by kernel_rfl) ?hfd3 ?hrd3 ?hQd3 ?hyd3 hHeld ?restd3
    case hod3 => (simp only [List.getElem?_toArray, List.getElem?_cons_succ, List.getElem?_cons_zero]; exact rfl)
    case hfd3 => kernel_rfl
    case hrd3 => kernel_rfl
    case hQd3 => exact fun _ _ _ h => h
    case hyd3 =>
     refine Or.inl ⟨by rfl, ?_⟩
     intro V hSV
     go_simp
     (try with_reducible rfl)
    try simp only [Act.put, List.setIfInBounds_toArray, List.set_cons_zero, List.set_cons_succ]
    refine wpAnyH_take (i := 3) (oi := ?oid4) (v := .bool true) ?hod4 (by kernel_rfl) ?hfd4 ?hrd4 ?hQd4 ?hyd4 hHeld ?restd4
    case hod4 => (simp only [List.getElem?_toArray, List.getElem?_cons_succ, List.getElem?_cons_zero]; exact rfl)
    case hfd4 => kernel_rfl
    case hrd4 => kernel_rfl
    case hQd4 => exact fun _ _ _ h => h
    case hyd4 =>
     refine Or.inl ⟨by rfl, ?_⟩
     intro V hSV
     go_simp
     (try with_reducible rfl)
    try simp only [Act.put, List.setIfInBounds_toArray, List.set_cons_zero, List.set_cons_succ]
    refine wpAnyH_take (i := 4) (oi := ?p5) (v := ?v5) ?a5 (by kernel_rfl) ?b5 ?c5 ?q5 ?y5 hHeld ?z5
    case a5 => (simp only [List.getElem?_toArray, List.getElem?_cons_succ, List.getElem?_cons_zero]; exact rfl)
    case b5 => kernel_rfl
    case c5 => kernel_rfl
    case q5 => exact fun _ _ _ h => h
    case y5 =>
     refine Or.inl ⟨by rfl, ?_⟩
     intro V hSV
     go_simp
     (try with_reducible rfl)
    try simp only [Act.put, List.setIfInBounds_toArray, List.set_cons_zero, List.set_cons_succ]
    refine wpAnyH_take (i := 5) (oi := ?p6) (v := ?v6) ?a6 (by kernel_rfl) ?b6 ?c6 ?q6 ?y6 hHeld ?z6
    case a6 => (simp only [List.getElem?_toArray, List.getElem?_cons_succ, List.getElem?_cons_zero]; exact rfl)
    case b6 => kernel_rfl
    case c6 => kernel_rfl
    case q6 => exact fun _ _ _ h => h
    case y6 =>
     refine Or.inl ⟨by rfl, ?_⟩
     intro V hSV
     go_simp
     (try with_reducible rfl)
    try simp only [Act.put, List.setIfInBounds_toArray, List.set_cons_zero, List.set_cons_succ]
    refine wpAnyH_take (i := 6) (oi := ?p7) (v := ?v7) ?a7 (by kernel_rfl) ?b7 ?c7 ?q7 ?y7 hHeld ?z7
    case a7 => (simp only [List.getElem?_toArray, List.getElem?_cons_succ, List.getElem?_cons_zero]; exact rfl)
    case b7 => kernel_rfl
    case c7 => kernel_rfl
    case q7 => exact fun _ _ _ h => h
    case y7 =>
     refine Or.inl ⟨by rfl, ?_⟩
     intro V hSV
     go_simp
     (try with_reducible rfl)
    try simp only [Act.put, List.setIfInBounds_toArray, List.set_cons_zero, List.set_cons_succ]
    refine wpAnyH_take (i := 7) (oi := ?p8) (v := ?v8) ?a8 (by kernel_rfl) ?b8 ?c8 ?q8 ?y8 hHeld ?z8
    case a8 => (simp only [List.getElem?_toArray, List.getElem?_cons_succ, List.getElem?_cons_zero]; exact rfl)
    case b8 => kernel_rfl
    case c8 => kernel_rfl
    case q8 => exact fun _ _ _ h => h
    case y8 =>
     refine Or.inl ⟨by rfl, ?_⟩
     intro V hSV
     obtain ⟨q, rfl⟩ := hSV
     go_simp
     (try with_reducible rfl)
    try simp only [Act.put, List.setIfInBounds_toArray, List.set_cons_zero, List.set_cons_succ]
    refine wpAnyH_take (i := 8) (oi := ?oid9) (v := .bool false) ?hod9 (by kernel_rfl) ?hfd9 ?hrd9 ?hQd9 ?hyd9 hHeld ?restd9
    case hod9 => (simp only [List.getElem?_toArray, List.getElem?_cons_succ, List.getElem?_cons_zero]; exact rfl)
    case hfd9 => kernel_rfl
    case hrd9 => kernel_rfl
    case hQd9 => exact fun _ _ _ h => h
    case hyd9 =>
     refine Or.inl ⟨by rfl, ?_⟩
     intro V hSV
     go_simp
     (try with_reducible rfl)
    try simp only [Act.put, List.setIfInBounds_toArray, List.set_cons_zero, List.set_cons_succ]
    refine wpAnyH_take (i := 9) (oi := ?oid10) (v := .bool false) ?hod10 (by kernel_rfl) ?hfd10 ?hrd10 ?hQd10 ?hyd10 hHeld ?restd10
    case hod10 => (simp only [List.getElem?_toArray, List.getElem?_cons_succ, List.getElem?_cons_zero]; exact rfl)
    case hfd10 => kernel_rfl
    case hrd10 => kernel_rfl
    case hQd10 => exact fun _ _ _ h => h
    case hyd10 =>
     refine Or.inl ⟨by rfl, ?_⟩
     intro V hSV
     go_simp
     (try with_reducible rfl)
    try simp only [Act.put, List.setIfInBounds_toArray, List.set_cons_zero, List.set_cons_succ]
    refine wpAnyH_take (i := 10) (oi := ?oid11) (v := .bool false) ?hod11 (by kernel_rfl) ?hfd11 ?hrd11 ?hQd11 ?hyd11 hHeld ?restd11
    case hod11 => (simp only [List.getElem?_toArray, List.getElem?_cons_succ, List.getElem?_cons_zero]; exact rfl)
    case hfd11 => kernel_rfl
    case hrd11 => kernel_rfl
    case hQd11 => exact fun _ _ _ h => h
    case hyd11 =>
     refine Or.inl ⟨by rfl, ?_⟩
     intro V hSV
     go_simp
     (try with_reducible rfl)
    try simp only [Act.put, List.setIfInBounds_toArray, List.set_cons_zero, List.set_cons_succ]
    refine wpAnyH_take (i := 11) (oi := ?p12) (v := undef) ?a12 (by kernel_rfl) ?b12 ?c12 ?q12 ?y12 hHeld ?z12
    case a12 => (simp only [List.getElem?_toArray, List.getElem?_cons_succ, List.getElem?_cons_zero]; exact rfl)
    case b12 => kernel_rfl
    case c12 => kernel_rfl
    case q12 => exact fun _ _ _ h => h
    case y12 =>
     exact Or.inr ⟨by rfl, rfl⟩
    try simp only [Act.put, List.setIfInBounds_toArray, List.set_cons_zero, List.set_cons_succ]
    refine wpAnyH_take (i := 12) (oi := ?p13) (v := undef) ?a13 (by kernel_rfl) ?b13 ?c13 ?q13 ?y13 hHeld ?z13
    case a13 => (simp only [List.getElem?_toArray, List.getElem?_cons_succ, List.getElem?_cons_zero]; exact rfl)
    case b13 => kernel_rfl
    case c13 => kernel_rfl
    case q13 => exact fun _ _ _ h => h
    case y13 =>
     exact Or.inr ⟨by rfl, rfl⟩
    try simp only [Act.put, List.setIfInBounds_toArray, List.set_cons_zero, List.set_cons_succ]
    refine wpAnyH_take (i := 13) (oi := ?p14) (v := undef) ?a14 (by kernel_rfl) ?b14 ?c14 ?q14 ?y14 hHeld ?z14
    case a14 => (simp only [List.getElem?_toArray, List.getElem?_cons_succ, List.getElem?_cons_zero]; exact rfl)
    case b14 => kernel_rfl
    case c14 => kernel_rfl
    case q14 => exact fun _ _ _ h => h
    case y14 =>
     exact Or.inr ⟨by rfl, rfl⟩
    try simp only [Act.put, List.setIfInBounds_toArray, List.set_cons_zero, List.set_cons_succ]
    refine wpAnyH_take (i := 14) (oi := ?p15) (v := undef) ?a15 (by kernel_rfl) ?b15 ?c15 ?q15 ?y15 hHeld ?z15
    case a15 => (simp only [List.getElem?_toArray, List.getElem?_cons_succ, List.getElem?_cons_zero]; exact rfl)
    case b15 => kernel_rfl
    case c15 => kernel_rfl
    case q15 => exact fun _ _ _ h => h
    case y15 =>
     exact Or.inr ⟨by rfl, rfl⟩
    try simp only [Act.put, List.setIfInBounds_toArray, List.set_cons_zero, List.set_cons_succ]
    refine wpAnyH_take (i := 15) (oi := ?p16) (v := undef) ?a16 (by kernel_rfl) ?b16 ?c16 ?q16 ?y16 hHeld ?z16
    case a16 => (simp only [List.getElem?_toArray, List.getElem?_cons_succ, List.getElem?_cons_zero]; exact rfl)
    case b16 => kernel_rfl
    case c16 => kernel_rfl
    case q16 => exact fun _ _ _ h => h
    case y16 =>
     exact Or.inr ⟨by rfl, rfl⟩
    try simp only [Act.put, List.setIfInBounds_toArray, List.set_cons_zero, List.set_cons_succ]
    refine wpAnyH_take (i := 16) (oi := ?p17) (v := undef) ?a17 (by kernel_rfl) ?b17 ?c17 ?q17 ?y17 hHeld ?z17
    case a17 => (simp only [List.getElem?_toArray, List.getElem?_cons_succ, List.getElem?_cons_zero]; exact rfl)
    case b17 => kernel_rfl
    case c17 => kernel_rfl
    case q17 => exact fun _ _ _ h => h
    case y17 =>
     exact Or.inr ⟨by rfl, rfl⟩
    try simp only [Act.put, List.setIfInBounds_toArray, List.set_cons_zero, List.set_cons_succ]
    refine wpAnyH_take (i := 17) (oi := ?p18) (v := undef) ?a18 (by kernel_rfl) ?b18 ?c18 ?q18 ?y18 hHeld ?z18
    case a18 => (simp only [List.getElem?_toArray, List.getElem?_cons_succ, List.getElem?_cons_zero]; exact rfl)
    case b18 => kernel_rfl
    case c18 => kernel_rfl
    case q18 => exact fun _ _ _ h => h
    case y18 =>
     exact Or.inr ⟨by rfl, rfl⟩
    try simp only [Act.put, List.setIfInBounds_toArray, List.set_cons_zero, List.set_cons_succ]
    refine wpAnyH_take (i := 18) (oi := ?p19) (v := undef) ?a19 (by kernel_rfl) ?b19 ?c19 ?q19 ?y19 hHeld ?z19
    case a19 => (simp only [List.getElem?_toArray, List.getElem?_cons_succ, List.getElem?_cons_zero]; exact rfl)
    case b19 => kernel_rfl
    case c19 => kernel_rfl
    case q19 => exact fun _ _ _ h => h
    case y19 =>
     exact Or.inr ⟨by rfl, rfl⟩
    try simp only [Act.put, List.setIfInBounds_toArray, List.set_cons_zero, List.set_cons_succ]
    refine wpAnyH_take (i := 19) (oi := ?p20) (v := undef) ?a20 (by kernel_rfl) ?b20 ?c20 ?q20 ?y20 hHeld ?z20
    case a20 => (simp only [List.getElem?_toArray, List.getElem?_cons_succ, List.getElem?_cons_zero]; exact rfl)
    case b20 => kernel_rfl
    case c20 => kernel_rfl
    case q20 => exact fun _ _ _ h => h
    case y20 =>
     exact Or.inr ⟨by rfl, rfl⟩
    try simp only [Act.put, List.setIfInBounds_toArray, List.set_cons_zero, List.set_cons_succ]
    refine wpAnyH_take (i := 20) (oi := ?p21) (v := undef) ?a21 (by kernel_rfl) ?b21 ?c21 ?q21 ?y21 hHeld ?z21
    case a21 => (simp only [List.getElem?_toArray, List.getElem?_cons_succ, List.getElem?_cons_zero]; exact rfl)
    case b21 => kernel_rfl
    case c21 => kernel_rfl
    case q21 => exact fun _ _ _ h => h
    case y21 =>
     exact Or.inr ⟨by rfl, rfl⟩
    try simp only [Act.put, List.setIfInBounds_toArray, List.set_cons_zero, List.set_cons_succ]
    refine wpAnyH_take (i := 21) (oi := ?p22) (v := undef) ?a22 (by kernel_rfl) ?b22 ?c22 ?q22 ?y22 hHeld ?z22
    case a22 => (simp only [List.getElem?_toArray, List.getElem?_cons_succ, List.getElem?_cons_zero]; exact rfl)
    case b22 => kernel_rfl
    case c22 => kernel_rfl
    case q22 => exact fun _ _ _ h => h
    case y22 =>
     exact Or.inr ⟨by rfl, rfl⟩
    try simp only [Act.put, List.setIfInBounds_toArray, List.set_cons_zero, List.set_cons_succ]
    refine wpAnyH_take (i := 22) (oi := ?p23) (v := undef) ?a23 (by kernel_rfl) ?b23 ?c23 ?q23 ?y23 hHeld ?z23
    case a23 => (simp only [List.getElem?_toArray, List.getElem?_cons_succ, List.getElem?_cons_zero]; exact rfl)
    case b23 => kernel_rfl
    case c23 => kernel_rfl
    case q23 => exact fun _ _ _ h => h
    case y23 =>
     exact Or.inr ⟨by rfl, rfl⟩
    try simp only [Act.put, List.setIfInBounds_toArray, List.set_cons_zero, List.set_cons_succ]
    refine wpAnyH_take (i := 23) (oi := ?p24) (v := undef) ?a24 (by kernel_rfl) ?b24 ?c24 ?q24 ?y24 hHeld ?z24
    case a24 => (simp only [List.getElem?_toArray, List.getElem?_cons_succ, List.getElem?_cons_zero]; exact rfl)
    case b24 => kernel_rfl
    case c24 => kernel_rfl
    case q24 => exact fun _ _ _ h => h
    case y24 =>
     exact Or.inr ⟨by rfl, rfl⟩
    try simp only [Act.put, List.setIfInBounds_toArray, List.set_cons_zero, List.set_cons_succ]
    refine wpAnyH_take (i := 24) (oi := ?p25) (v := undef) ?a25 (by kernel_rfl) ?b25 ?c25 ?q25 ?y25 hHeld ?z25
    case a25 => (simp only [List.getElem?_toArray, List.getElem?_cons_succ, List.getElem?_cons_zero]; exact rfl)
    case b25 => kernel_rfl
    case c25 => kernel_rfl
    case q25 => exact fun _ _ _ h => h
    case y25 =>
     exact Or.inr ⟨by rfl, rfl⟩
    try simp only [Act.put, List.setIfInBounds_toArray, List.set_cons_zero, List.set_cons_succ]
    refine wpAnyH_take (i := 25) (oi := ?p26) (v := undef) ?a26 (by kernel_rfl) ?b26 ?c26 ?q26 ?y26 hHeld ?z26
    case a26 => (simp only [List.getElem?_toArray, List.getElem?_cons_succ, List.getElem?_cons_zero]; exact rfl)
    case b26 => kernel_rfl
    case c26 => kernel_rfl
    case q26 => exact fun _ _ _ h => h
    case y26 =>
     exact Or.inr ⟨by rfl, rfl⟩
    try simp only [Act.put, List.setIfInBounds_toArray, List.set_cons_zero, List.set_cons_succ]
    refine wpAnyH_take (i := 26) (oi := ?p27) (v := undef) ?a27 (by kernel_rfl) ?b27 ?c27 ?q27 ?y27 hHeld ?z27
    case a27 => (simp only [List.getElem?_toArray, List.getElem?_cons_succ, List.getElem?_cons_zero]; exact rfl)
    case b27 => kernel_rfl
    case c27 => kernel_rfl
    case q27 => exact fun _ _ _ h => h
    case y27 =>
     exact Or.inr ⟨by rfl, rfl⟩
    try simp only [Act.put, List.setIfInBounds_toArray, List.set_cons_zero, List.set_cons_succ]
    refine wpAnyH_take (i := 27) (oi := ?p28) (v := undef) ?a28 (by kernel_rfl) ?b28 ?c28 ?q28 ?y28 hHeld ?z28
    case a28 => (simp only [List.getElem?_toArray, List.getElem?_cons_succ, List.getElem?_cons_zero]; exact rfl)
    case b28 => kernel_rfl
    case c28 => kernel_rfl
    case q28 => exact fun _ _ _ h => h
    case y28 =>
     exact Or.inr ⟨by rfl, rfl⟩
    try simp only [Act.put, List.setIfInBounds_toArray, List.set_cons_zero, List.set_cons_succ]
    refine wpAnyH_take (i := 28) (oi := ?oid29) (v := .bool false) ?hod29 (by kernel_rfl) ?hfd29 ?hrd29 ?hQd29 ?hyd29 hHeld ?restd29
    case hod29 => (simp only [List.getElem?_toArray, List.getElem?_cons_succ, List.getElem?_cons_zero]; exact rfl)
    case hfd29 => kernel_rfl
    case hrd29 => kernel_rfl
    case hQd29 => exact fun _ _ _ h => h
    case hyd29 =>
     refine Or.inl ⟨by rfl, ?_⟩
     intro V hSV
     go_simp
     (try with_reducible rfl)
    try simp only [Act.put, List.setIfInBounds_toArray, List.set_cons_zero, List.set_cons_succ]
    refine wpAnyH_done (by kernel_rfl) ?_ _
    clear hHeld
    try rw [World.drewN_drewN]
    obtain ⟨q, hq⟩ : ∃ q, q = 1 + q1 := ⟨_, rfl⟩
    rw [← hq]
    clear hq
    have HBU := Lib.hid (show Bk (w.drewN q) g PT (pzC AW nW cW k sz AN nN cN AV nV cV e0 a0) from HB.out)
    have HWU := Lib.hid (show OwV 127 (w.drewN q) base AW cW nW ws from HW.out)
    have HNU := Lib.hid (show OwS (w.drewN q) base AN cN nN names from HN.out)
    have HVU := Lib.hid (show OwS (w.drewN q) base AV cV nV vars from HV.out)
    have HKU := Lib.hid ((Kp.refl base g w).drews q)
    clear HB HW HN HV HKD HRN c0 c1 c3 c5 f3
    try clear HIX
    try clear r1
    generalize w.drewN q = U at HBU HWU HNU HVU HKU ⊢
    have c0 : U.cell? ⟨g, 0, none⟩ = some (.slice AW nW cW) := HBU.out.cell 0
    have c1 : U.cell? ⟨g, 1, none⟩ = some (.int .i64 (k : Int)) := HBU.out.cell 1
    have c3 : U.cell? ⟨g, 3, none⟩ = some (.slice AN nN cN) := HBU.out.cell 3
    have c5 : U.cell? ⟨g, 5, none⟩ = some (.int .i64 ((e0 : Nat) : Int)) := HBU.out.cell 5
    repeat (first | go_skip | go_guarded | go_step)
    have HWD := Lib.hid (show ∀ q, Calls Tryz.prog 61 #[.pointer (some ⟨g, 0, none⟩), .int .u8 1] (U.drewN q) fun e w' => e = .returned (sv ⟨#[]⟩) ∧ Only g U w' ∧ k ≤ nW ∧ Bk w' g PT (pzC AW nW cW k sz AN nN cN AV nV cV e0 a0) ∧ k ≤ nW from fun q => by
     refine (pWord_any 1 base ws (U.drewN q) HBU.out HWU.out hk (by omega) (by omega)).mono ?_
     rintro e w' ⟨ht, hd⟩
     have ht' : Only g U w' := Turn.trans (Turn.ofBelow (G := fun j => j = g) (belowDrews (Below.refl _ U) q)) ht
     rcases hd with ⟨h1, h2, h3, h4, h5⟩ | ⟨h1, h2, h3, h4⟩ | ⟨h1, h3, h4⟩
     ·
      exact absurd h1 HE.out
     ·
      exact absurd h1 HE.out
     ·
      exact ⟨h3, ht', hk, h4, hk⟩)
    obtain ⟨T, hT⟩ : ∃ T : ByteArray, T = ⟨#[]⟩ := ⟨_, rfl⟩
    rw [← hT] at HWD
    have HTX := Lib.hid hT
    clear hT
    cases hfo : findO names T with
    | some i =>
     have hi5 : i < 5000 := Nat.lt_of_lt_of_le (findO_lt hfo) (by have := HNL.out; omega)
     have HZ := Lib.hid (show findZ names T = (i : Int) by unfold findZ; rw [hfo])
     have hwr : IntKind.u32.wrap (i : Int) = (i : Int) := by rw [IntKind.wrap_u32] <;> omega
     clear hfo
     refine wp_region_held_drew (S := fun V => V.cell? ⟨g, 3, none⟩ = some (.slice AN nN cN)) (by kernel_rfl) ?_ (fun hHeld => ?_)
     ·
      exact c3
     refine wpAnyH_take (i := 0) (oi := ?p30) (v := ?v30) ?a30 (by kernel_rfl) ?b30 ?c30 ?q30 ?y30 hHeld ?z30
     case a30 => (simp only [List.getElem?_toArray, List.getElem?_cons_succ, List.getElem?_cons_zero]; exact rfl)
     case b30 => kernel_rfl
     case c30 => kernel_rfl
     case q30 => exact fun _ _ _ h => h
     case y30 =>
      refine Or.inl ⟨by rfl, ?_⟩
      intro V hSV
      go_simp
      (try with_reducible rfl)
     try simp only [Act.put, List.setIfInBounds_toArray, List.set_cons_zero, List.set_cons_succ]
     refine wpAnyH_take (i := 1) (oi := ?p31) (v := ?v31) ?a31 (by kernel_rfl) ?b31 ?c31 ?q31 ?y31 hHeld ?z31
     case a31 => (simp only [List.getElem?_toArray, List.getElem?_cons_succ, List.getElem?_cons_zero]; exact rfl)
     case b31 => kernel_rfl
     case c31 => kernel_rfl
     case q31 => exact fun _ _ _ h => h
     case y31 =>
      refine Or.inl ⟨by rfl, ?_⟩
      intro V hSV
      go_simp
      (try with_reducible rfl)
     try simp only [Act.put, List.setIfInBounds_toArray, List.set_cons_zero, List.set_cons_succ]
     refine wpAnyH_take (i := 2) (oi := ?p32) (v := ?v32) ?a32 (by kernel_rfl) ?b32 ?c32 ?q32 ?y32 hHeld ?z32
     case a32 => (simp only [List.getElem?_toArray, List.getElem?_cons_succ, List.getElem?_cons_zero]; exact rfl)
     case b32 => kernel_rfl
     case c32 => kernel_rfl
     case q32 => exact fun _ _ _ h => h
     case y32 =>
      refine Or.inl ⟨by rfl, ?_⟩
      intro V hSV
      go_simp
      (try with_reducible rfl)
     try simp only [Act.put, List.setIfInBounds_toArray, List.set_cons_zero, List.set_cons_succ]
     refine wpAnyH_take (i := 3) (oi := ?p33) (v := ?v33) ?a33 (by kernel_rfl) ?b33 ?c33 ?q33 ?y33 hHeld ?z33
     case a33 => (simp only [List.getElem?_toArray, List.getElem?_cons_succ, List.getElem?_cons_zero]; exact rfl)
     case b33 => kernel_rfl
     case c33 => kernel_rfl
     case q33 => exact fun _ _ _ h => h
     case y33 =>
      refine Or.inl ⟨by rfl, ?_⟩
      intro V hSV
      go_simp
      (try with_reducible rfl)
     try simp only [Act.put, List.setIfInBounds_toArray, List.set_cons_zero, List.set_cons_succ]
     refine wpAnyH_take (i := 4) (oi := ?p34) (v := ?v34) ?a34 (by kernel_rfl) ?b34 ?c34 ?q34 ?y34 hHeld ?z34
     case a34 => (simp only [List.getElem?_toArray, List.getElem?_cons_succ, List.getElem?_cons_zero]; exact rfl)
     case b34 => kernel_rfl
     case c34 => kernel_rfl
     case q34 => exact fun _ _ _ h => h
     case y34 =>
      refine Or.inl ⟨by rfl, ?_⟩
      intro V hSV
      go_simp
      (try with_reducible rfl)
     try simp only [Act.put, List.setIfInBounds_toArray, List.set_cons_zero, List.set_cons_succ]
     refine wpAnyH_ready (rs := [5]) (by kernel_rfl) (by simp) ?_
     refine AllReadyH.cons (o := ?od35) ?hod35 (fun K hK => ?kd35) ?md35
     case hod35 => (simp only [List.getElem?_toArray, List.getElem?_cons_succ, List.getElem?_cons_zero]; exact rfl)
     case kd35 =>
      go_simp
      refine (HWD.out 1).mono ?_
      rintro e V ⟨rfl, ht2, _, hb2, hk2⟩
      have HT2 := Lib.hid ht2
      have HB2 := Lib.hid hb2
      have HIX2 := Lib.hid (pIndex_any AN nN cN names T V (Rd.ofOwn (own_only HNU.out HBU.out (by decide) ht2)) (by omega))
      rw [HZ.out] at HIX2
      clear ht2 hb2
      (try dsimp only)
      refine hK.out _ _ ?_ (fun hHeld => ?_)
      ·
       exact HB2.out.cell 3
      clear hK K
      try simp only [Act.put, List.setIfInBounds_toArray, List.set_cons_zero, List.set_cons_succ]
      refine wpAnyH_ready (rs := [6]) (by kernel_rfl) (by simp) ?_
      refine AllReadyH.cons (o := ?od36) ?hod36 (fun K hK => ?kd36) ?md36
      case hod36 => (simp only [List.getElem?_toArray, List.getElem?_cons_succ, List.getElem?_cons_zero]; exact rfl)
      case kd36 =>
       go_simp
       refine HIX2.out.mono ?_
       rintro e V2 ⟨rfl, rfl⟩
       (try dsimp only)
       refine hK.out _ _ ?_ (fun hHeld => ?_)
       ·
        exact HB2.out.cell 3
       clear hK K
       try simp only [Act.put, List.setIfInBounds_toArray, List.set_cons_zero, List.set_cons_succ]
       refine wpAnyH_take (i := 7) (oi := ?p37) (v := ?v37) ?a37 (by kernel_rfl) ?b37 ?c37 ?q37 ?y37 hHeld ?z37
       case a37 => (simp only [List.getElem?_toArray, List.getElem?_cons_succ, List.getElem?_cons_zero]; exact rfl)
       case b37 => kernel_rfl
       case c37 => kernel_rfl
       case q37 => exact fun _ _ _ h => h
       case y37 =>
        refine Or.inl ⟨by rfl, ?_⟩
        intro V hSV
        go_simp
        (try with_reducible rfl)
       try simp only [Act.put, List.setIfInBounds_toArray, List.set_cons_zero, List.set_cons_succ]
       refine wpAnyH_take (i := 8) (oi := ?p38) (v := ?v38) ?a38 (by kernel_rfl) ?b38 ?c38 ?q38 ?y38 hHeld ?z38
       case a38 => (simp only [List.getElem?_toArray, List.getElem?_cons_succ, List.getElem?_cons_zero]; exact rfl)
       case b38 => kernel_rfl
       case c38 => kernel_rfl
       case q38 => exact fun _ _ _ h => h
       case y38 =>
        refine Or.inl ⟨by rfl, ?_⟩
        intro V hSV
        go_simp
        (try with_reducible rfl)
       try simp only [Act.put, List.setIfInBounds_toArray, List.set_cons_zero, List.set_cons_succ]
       refine wpAnyH_take (i := 9) (oi := ?p39) (v := ?v39) ?a39 (by kernel_rfl) ?b39 ?c39 ?q39 ?y39 hHeld ?z39
       case a39 => (simp only [List.getElem?_toArray, List.getElem?_cons_succ, List.getElem?_cons_zero]; exact rfl)
       case b39 => kernel_rfl
       case c39 => kernel_rfl
       case q39 => exact fun _ _ _ h => h
       case y39 =>
        refine Or.inl ⟨by rfl, ?_⟩
        intro V hSV
        go_simp
        (try with_reducible rfl)
       try simp only [Act.put, List.setIfInBounds_toArray, List.set_cons_zero, List.set_cons_succ]
       refine wpAnyH_done (by kernel_rfl) ?_ _
       clear hHeld
       repeat (first | go_skip | go_guarded | go_step)
       go_ret
       exact ⟨i, by first | rfl | simp, by omega, mkSt (x := goE _ (nameE sz)) hg HBU.out HB2.out HWU.out HNU.out HVU.out HNE.out hk2 hW hN hV HT2.out (by exact HST.out), (fun s u s2 h => by cases h), HKU.out.trans (Kp.only HT2.out hg HBU.out.lt)⟩
      exact AllReadyH.nil
     exact AllReadyH.nil
    | none =>
     have HZ := Lib.hid (show findZ names T = -1 by unfold findZ; rw [hfo])
     clear hfo
     refine wp_region_held_drew (S := fun V => V.cell? ⟨g, 3, none⟩ = some (.slice AN nN cN)) (by kernel_rfl) ?_ (fun hHeld => ?_)
     ·
      exact c3
     refine wpAnyH_take (i := 0) (oi := ?p40) (v := ?v40) ?a40 (by kernel_rfl) ?b40 ?c40 ?q40 ?y40 hHeld ?z40
     case a40 => (simp only [List.getElem?_toArray, List.getElem?_cons_succ, List.getElem?_cons_zero]; exact rfl)
     case b40 => kernel_rfl
     case c40 => kernel_rfl
     case q40 => exact fun _ _ _ h => h
     case y40 =>
      refine Or.inl ⟨by rfl, ?_⟩
      intro V hSV
      go_simp
      (try with_reducible rfl)
     try simp only [Act.put, List.setIfInBounds_toArray, List.set_cons_zero, List.set_cons_succ]
     refine wpAnyH_take (i := 1) (oi := ?p41) (v := ?v41) ?a41 (by kernel_rfl) ?b41 ?c41 ?q41 ?y41 hHeld ?z41
     case a41 => (simp only [List.getElem?_toArray, List.getElem?_cons_succ, List.getElem?_cons_zero]; exact rfl)
     case b41 => kernel_rfl
     case c41 => kernel_rfl
     case q41 => exact fun _ _ _ h => h
     case y41 =>
      refine Or.inl ⟨by rfl, ?_⟩
      intro V hSV
      go_simp
      (try with_reducible rfl)
     try simp only [Act.put, List.setIfInBounds_toArray, List.set_cons_zero, List.set_cons_succ]
     refine wpAnyH_take (i := 2) (oi := ?p42) (v := ?v42) ?a42 (by kernel_rfl) ?b42 ?c42 ?q42 ?y42 hHeld ?z42
     case a42 => (simp only [List.getElem?_toArray, List.getElem?_cons_succ, List.getElem?_cons_zero]; exact rfl)
     case b42 => kernel_rfl
     case c42 => kernel_rfl
     case q42 => exact fun _ _ _ h => h
     case y42 =>
      refine Or.inl ⟨by rfl, ?_⟩
      intro V hSV
      go_simp
      (try with_reducible rfl)
     try simp only [Act.put, List.setIfInBounds_toArray, List.set_cons_zero, List.set_cons_succ]
     refine wpAnyH_take (i := 3) (oi := ?p43) (v := ?v43) ?a43 (by kernel_rfl) ?b43 ?c43 ?q43 ?y43 hHeld ?z43
     case a43 => (simp only [List.getElem?_toArray, List.getElem?_cons_succ, List.getElem?_cons_zero]; exact rfl)
     case b43 => kernel_rfl
     case c43 => kernel_rfl
     case q43 => exact fun _ _ _ h => h
     case y43 =>
      refine Or.inl ⟨by rfl, ?_⟩
      intro V hSV
      go_simp
      (try with_reducible rfl)
     try simp only [Act.put, List.setIfInBounds_toArray, List.set_cons_zero, List.set_cons_succ]
     refine wpAnyH_take (i := 4) (oi := ?p44) (v := ?v44) ?a44 (by kernel_rfl) ?b44 ?c44 ?q44 ?y44 hHeld ?z44
     case a44 => (simp only [List.getElem?_toArray, List.getElem?_cons_succ, List.getElem?_cons_zero]; exact rfl)
     case b44 => kernel_rfl
     case c44 => kernel_rfl
     case q44 => exact fun _ _ _ h => h
     case y44 =>
      refine Or.inl ⟨by rfl, ?_⟩
      intro V hSV
      go_simp
      (try with_reducible rfl)
     try simp only [Act.put, List.setIfInBounds_toArray, List.set_cons_zero, List.set_cons_succ]
     refine wpAnyH_ready (rs := [5]) (by kernel_rfl) (by simp) ?_
     refine AllReadyH.cons (o := ?od45) ?hod45 (fun K hK => ?kd45) ?md45
     case hod45 => (simp only [List.getElem?_toArray, List.getElem?_cons_succ, List.getElem?_cons_zero]; exact rfl)
     case kd45 =>
      go_simp
      refine (HWD.out 1).mono ?_
      rintro e V ⟨rfl, ht2, _, hb2, hk2⟩
      have HT2 := Lib.hid ht2
      have HB2 := Lib.hid hb2
      have HIX2 := Lib.hid (pIndex_any AN nN cN names T V (Rd.ofOwn (own_only HNU.out HBU.out (by decide) ht2)) (by omega))
      rw [HZ.out] at HIX2
      clear ht2 hb2
      (try dsimp only)
      refine hK.out _ _ ?_ (fun hHeld => ?_)
      ·
       exact HB2.out.cell 3
      clear hK K
      try simp only [Act.put, List.setIfInBounds_toArray, List.set_cons_zero, List.set_cons_succ]
      refine wpAnyH_ready (rs := [6]) (by kernel_rfl) (by simp) ?_
      refine AllReadyH.cons (o := ?od46) ?hod46 (fun K hK => ?kd46) ?md46
      case hod46 => (simp only [List.getElem?_toArray, List.getElem?_cons_succ, List.getElem?_cons_zero]; exact rfl)
      case kd46 =>
       go_simp
       refine HIX2.out.mono ?_
       rintro e V2 ⟨rfl, rfl⟩
       (try dsimp only)
       refine hK.out _ _ ?_ (fun hHeld => ?_)
       ·
        exact HB2.out.cell 3
       clear hK K
       try simp only [Act.put, List.setIfInBounds_toArray, List.set_cons_zero, List.set_cons_succ]
       refine wpAnyH_take (i := 7) (oi := ?p47) (v := ?v47) ?a47 (by kernel_rfl) ?b47 ?c47 ?q47 ?y47 hHeld ?z47
       case a47 => (simp only [List.getElem?_toArray, List.getElem?_cons_succ, List.getElem?_cons_zero]; exact rfl)
       case b47 => kernel_rfl
       case c47 => kernel_rfl
       case q47 => exact fun _ _ _ h => h
       case y47 =>
        refine Or.inl ⟨by rfl, ?_⟩
        intro V hSV
        go_simp
        (try with_reducible rfl)
       try simp only [Act.put, List.setIfInBounds_toArray, List.set_cons_zero, List.set_cons_succ]
       refine wpAnyH_take (i := 8) (oi := ?p48) (v := ?v48) ?a48 (by kernel_rfl) ?b48 ?c48 ?q48 ?y48 hHeld ?z48
       case a48 => (simp only [List.getElem?_toArray, List.getElem?_cons_succ, List.getElem?_cons_zero]; exact rfl)
       case b48 => kernel_rfl
       case c48 => kernel_rfl
       case q48 => exact fun _ _ _ h => h
       case y48 =>
        refine Or.inl ⟨by rfl, ?_⟩
        intro V hSV
        go_simp
        (try with_reducible rfl)
       try simp only [Act.put, List.setIfInBounds_toArray, List.set_cons_zero, List.set_cons_succ]
       refine wpAnyH_take (i := 9) (oi := ?p49) (v := ?v49) ?a49 (by kernel_rfl) ?b49 ?c49 ?q49 ?y49 hHeld ?z49
       case a49 => (simp only [List.getElem?_toArray, List.getElem?_cons_succ, List.getElem?_cons_zero]; exact rfl)
       case b49 => kernel_rfl
       case c49 => kernel_rfl
       case q49 => exact fun _ _ _ h => h
       case y49 =>
        refine Or.inl ⟨by rfl, ?_⟩
        intro V hSV
        go_simp
        (try with_reducible rfl)
       try simp only [Act.put, List.setIfInBounds_toArray, List.set_cons_zero, List.set_cons_succ]
       refine wpAnyH_done (by kernel_rfl) ?_ _
       clear hHeld
       repeat (first | go_skip | go_guarded | go_step)
       go_ret
       exact ⟨0, by first | rfl | simp, by omega, mkSt (x := goE _ (nameE sz)) hg HBU.out HB2.out HWU.out HNU.out HVU.out HNE.out hk2 hW hN hV HT2.out (by exact HST.out), (fun s u s2 h => by cases h), HKU.out.trans (Kp.only HT2.out hg HBU.out.lt)⟩
      exact AllReadyH.nil
     exact AllReadyH.nil
   exact AllReadyH.nil
  ·
   have dk : ((kk : Int) == 1) = false := by rw [beq_eq_false_iff_ne]; omega
   clear h1
   go_enter Tryz.func105, Tryz.ntmps105
   repeat (first | go_skip | go_guarded | go_step)
   refine wp_region_held_drew (S := fun V => ∃ q, V = w.drewN q) (by kernel_rfl) ?_ (fun hHeld => ?_)
   ·
    exact ⟨1, rfl⟩
   refine wpAnyH_take (i := 0) (oi := ?p50) (v := ?v50) ?a50 (by kernel_rfl) ?b50 ?c50 ?q50 ?y50 hHeld ?z50
   case a50 => (simp only [List.getElem?_toArray, List.getElem?_cons_succ, List.getElem?_cons_zero]; exact rfl)
   case b50 => kernel_rfl
   case c50 => kernel_rfl
   case q50 => exact fun _ _ _ h => h
   case y50 =>
    refine Or.inl ⟨by rfl, ?_⟩
    intro V hSV
    go_simp
    (try with_reducible rfl)
   try simp only [Act.put, List.setIfInBounds_toArray, List.set_cons_zero, List.set_cons_succ]
   refine wpAnyH_ready (rs := [1]) (by kernel_rfl) (by simp) ?_
   refine AllReadyH.cons (o := ?od51) ?hod51 (fun K hK => ?kd51) ?md51
   case hod51 => (simp only [List.getElem?_toArray, List.getElem?_cons_succ, List.getElem?_cons_zero]; exact rfl)
   case kd51 =>
    go_simp
    refine (HKD.out 1).mono ?_
    rintro e V ⟨rfl, q1, rfl⟩
    (try dsimp only)
    refine hK.out _ _ ?_ (fun hHeld => ?_)
    ·
     exact ⟨1 + q1, World.drewN_drewN _ _ _⟩
    clear hK K
    try simp only [Act.put, List.setIfInBounds_toArray, List.set_cons_zero, List.set_cons_succ]
    refine wpAnyH_take (i := 2) (oi := ?oid52) (v := .bool false) ?hod52 (by kernel_rfl) ?hfd52 ?hrd52 ?hQd52 ?hyd52 hHeld ?restd52
    case hod52 => (simp only [List.getElem?_toArray, List.getElem?_cons_succ, List.getElem?_cons_zero]; exact rfl)
    case hfd52 => kernel_rfl
    case hrd52 => kernel_rfl
    case hQd52 => exact fun _ _ _ h => h
    case hyd52 =>
     refine Or.inl ⟨by rfl, ?_⟩
     intro V hSV
     go_simp
     (try with_reducible rfl)
    try simp only [Act.put, List.setIfInBounds_toArray, List.set_cons_zero, List.set_cons_succ]
    refine wpAnyH_take (i := 3) (oi := ?oid53) (v := .bool false) ?hod53 (by kernel_rfl) ?hfd53 ?hrd53 ?hQd53 ?hyd53 hHeld ?restd53
    case hod53 => (simp only [List.getElem?_toArray, List.getElem?_cons_succ, List.getElem?_cons_zero]; exact rfl)
    case hfd53 => kernel_rfl
    case hrd53 => kernel_rfl
    case hQd53 => exact fun _ _ _ h => h
    case hyd53 =>
     refine Or.inl ⟨by rfl, ?_⟩
     intro V hSV
     go_simp
     (try with_reducible rfl)
    try simp only [Act.put, List.setIfInBounds_toArray, List.set_cons_zero, List.set_cons_succ]
    refine wpAnyH_take (i := 4) (oi := ?p54) (v := undef) ?a54 (by kernel_rfl) ?b54 ?c54 ?q54 ?y54 hHeld ?z54
    case a54 => (simp only [List.getElem?_toArray, List.getElem?_cons_succ, List.getElem?_cons_zero]; exact rfl)
    case b54 => kernel_rfl
    case c54 => kernel_rfl
    case q54 => exact fun _ _ _ h => h
    case y54 =>
     exact Or.inr ⟨by rfl, rfl⟩
    try simp only [Act.put, List.setIfInBounds_toArray, List.set_cons_zero, List.set_cons_succ]
    refine wpAnyH_take (i := 5) (oi := ?p55) (v := undef) ?a55 (by kernel_rfl) ?b55 ?c55 ?q55 ?y55 hHeld ?z55
    case a55 => (simp only [List.getElem?_toArray, List.getElem?_cons_succ, List.getElem?_cons_zero]; exact rfl)
    case b55 => kernel_rfl
    case c55 => kernel_rfl
    case q55 => exact fun _ _ _ h => h
    case y55 =>
     exact Or.inr ⟨by rfl, rfl⟩
    try simp only [Act.put, List.setIfInBounds_toArray, List.set_cons_zero, List.set_cons_succ]
    refine wpAnyH_take (i := 6) (oi := ?p56) (v := undef) ?a56 (by kernel_rfl) ?b56 ?c56 ?q56 ?y56 hHeld ?z56
    case a56 => (simp only [List.getElem?_toArray, List.getElem?_cons_succ, List.getElem?_cons_zero]; exact rfl)
    case b56 => kernel_rfl
    case c56 => kernel_rfl
    case q56 => exact fun _ _ _ h => h
    case y56 =>
     exact Or.inr ⟨by rfl, rfl⟩
    try simp only [Act.put, List.setIfInBounds_toArray, List.set_cons_zero, List.set_cons_succ]
    refine wpAnyH_take (i := 7) (oi := ?p57) (v := undef) ?a57 (by kernel_rfl) ?b57 ?c57 ?q57 ?y57 hHeld ?z57
    case a57 => (simp only [List.getElem?_toArray, List.getElem?_cons_succ, List.getElem?_cons_zero]; exact rfl)
    case b57 => kernel_rfl
    case c57 => kernel_rfl
    case q57 => exact fun _ _ _ h => h
    case y57 =>
     exact Or.inr ⟨by rfl, rfl⟩
    try simp only [Act.put, List.setIfInBounds_toArray, List.set_cons_zero, List.set_cons_succ]
    refine wpAnyH_take (i := 8) (oi := ?p58) (v := undef) ?a58 (by kernel_rfl) ?b58 ?c58 ?q58 ?y58 hHeld ?z58
    case a58 => (simp only [List.getElem?_toArray, List.getElem?_cons_succ, List.getElem?_cons_zero]; exact rfl)
    case b58 => kernel_rfl
    case c58 => kernel_rfl
    case q58 => exact fun _ _ _ h => h
    case y58 =>
     exact Or.inr ⟨by rfl, rfl⟩
    try simp only [Act.put, List.setIfInBounds_toArray, List.set_cons_zero, List.set_cons_succ]
    refine wpAnyH_take (i := 9) (oi := ?oid59) (v := .bool false) ?hod59 (by kernel_rfl) ?hfd59 ?hrd59 ?hQd59 ?hyd59 hHeld ?restd59
    case hod59 => (simp only [List.getElem?_toArray, List.getElem?_cons_succ, List.getElem?_cons_zero]; exact rfl)
    case hfd59 => kernel_rfl
    case hrd59 => kernel_rfl
    case hQd59 => exact fun _ _ _ h => h
    case hyd59 =>
     refine Or.inl ⟨by rfl, ?_⟩
     intro V hSV
     go_simp
     (try with_reducible rfl)
    try simp only [Act.put, List.setIfInBounds_toArray, List.set_cons_zero, List.set_cons_succ]
    refine wpAnyH_take (i := 10) (oi := ?oid60) (v := .bool false) ?hod60 (by kernel_rfl) ?hfd60 ?hrd60 ?hQd60 ?hyd60 hHeld ?restd60
    case hod60 => (simp only [List.getElem?_toArray, List.getElem?_cons_succ, List.getElem?_cons_zero]; exact rfl)
    case hfd60 => kernel_rfl
    case hrd60 => kernel_rfl
    case hQd60 => exact fun _ _ _ h => h
    case hyd60 =>
     refine Or.inl ⟨by rfl, ?_⟩
     intro V hSV
     go_simp
     (try with_reducible rfl)
    try simp only [Act.put, List.setIfInBounds_toArray, List.set_cons_zero, List.set_cons_succ]
    refine wpAnyH_take (i := 11) (oi := ?p61) (v := undef) ?a61 (by kernel_rfl) ?b61 ?c61 ?q61 ?y61 hHeld ?z61
    case a61 => (simp only [List.getElem?_toArray, List.getElem?_cons_succ, List.getElem?_cons_zero]; exact rfl)
    case b61 => kernel_rfl
    case c61 => kernel_rfl
    case q61 => exact fun _ _ _ h => h
    case y61 =>
     exact Or.inr ⟨by rfl, rfl⟩
    try simp only [Act.put, List.setIfInBounds_toArray, List.set_cons_zero, List.set_cons_succ]
    refine wpAnyH_take (i := 12) (oi := ?p62) (v := undef) ?a62 (by kernel_rfl) ?b62 ?c62 ?q62 ?y62 hHeld ?z62
    case a62 => (simp only [List.getElem?_toArray, List.getElem?_cons_succ, List.getElem?_cons_zero]; exact rfl)
    case b62 => kernel_rfl
    case c62 => kernel_rfl
    case q62 => exact fun _ _ _ h => h
    case y62 =>
     exact Or.inr ⟨by rfl, rfl⟩
    try simp only [Act.put, List.setIfInBounds_toArray, List.set_cons_zero, List.set_cons_succ]
    refine wpAnyH_take (i := 13) (oi := ?p63) (v := undef) ?a63 (by kernel_rfl) ?b63 ?c63 ?q63 ?y63 hHeld ?z63
    case a63 => (simp only [List.getElem?_toArray, List.getElem?_cons_succ, List.getElem?_cons_zero]; exact rfl)
    case b63 => kernel_rfl
    case c63 => kernel_rfl
    case q63 => exact fun _ _ _ h => h
    case y63 =>
     exact Or.inr ⟨by rfl, rfl⟩
    try simp only [Act.put, List.setIfInBounds_toArray, List.set_cons_zero, List.set_cons_succ]
    refine wpAnyH_take (i := 14) (oi := ?p64) (v := undef) ?a64 (by kernel_rfl) ?b64 ?c64 ?q64 ?y64 hHeld ?z64
    case a64 => (simp only [List.getElem?_toArray, List.getElem?_cons_succ, List.getElem?_cons_zero]; exact rfl)
    case b64 => kernel_rfl
    case c64 => kernel_rfl
    case q64 => exact fun _ _ _ h => h
    case y64 =>
     exact Or.inr ⟨by rfl, rfl⟩
    try simp only [Act.put, List.setIfInBounds_toArray, List.set_cons_zero, List.set_cons_succ]
    refine wpAnyH_take (i := 15) (oi := ?p65) (v := undef) ?a65 (by kernel_rfl) ?b65 ?c65 ?q65 ?y65 hHeld ?z65
    case a65 => (simp only [List.getElem?_toArray, List.getElem?_cons_succ, List.getElem?_cons_zero]; exact rfl)
    case b65 => kernel_rfl
    case c65 => kernel_rfl
    case q65 => exact fun _ _ _ h => h
    case y65 =>
     exact Or.inr ⟨by rfl, rfl⟩
    try simp only [Act.put, List.setIfInBounds_toArray, List.set_cons_zero, List.set_cons_succ]
    refine wpAnyH_take (i := 16) (oi := ?p66) (v := undef) ?a66 (by kernel_rfl) ?b66 ?c66 ?q66 ?y66 hHeld ?z66
    case a66 => (simp only [List.getElem?_toArray, List.getElem?_cons_succ, List.getElem?_cons_zero]; exact rfl)
    case b66 => kernel_rfl
    case c66 => kernel_rfl
    case q66 => exact fun _ _ _ h => h
    case y66 =>
     exact Or.inr ⟨by rfl, rfl⟩
    try simp only [Act.put, List.setIfInBounds_toArray, List.set_cons_zero, List.set_cons_succ]
    refine wpAnyH_take (i := 17) (oi := ?p67) (v := undef) ?a67 (by kernel_rfl) ?b67 ?c67 ?q67 ?y67 hHeld ?z67
    case a67 => (simp only [List.getElem?_toArray, List.getElem?_cons_succ, List.getElem?_cons_zero]; exact rfl)
    case b67 => kernel_rfl
    case c67 => kernel_rfl
    case q67 => exact fun _ _ _ h => h
    case y67 =>
     exact Or.inr ⟨by rfl, rfl⟩
    try simp only [Act.put, List.setIfInBounds_toArray, List.set_cons_zero, List.set_cons_succ]
    refine wpAnyH_take (i := 18) (oi := ?p68) (v := undef) ?a68 (by kernel_rfl) ?b68 ?c68 ?q68 ?y68 hHeld ?z68
    case a68 => (simp only [List.getElem?_toArray, List.getElem?_cons_succ, List.getElem?_cons_zero]; exact rfl)
    case b68 => kernel_rfl
    case c68 => kernel_rfl
    case q68 => exact fun _ _ _ h => h
    case y68 =>
     exact Or.inr ⟨by rfl, rfl⟩
    try simp only [Act.put, List.setIfInBounds_toArray, List.set_cons_zero, List.set_cons_succ]
    refine wpAnyH_take (i := 19) (oi := ?p69) (v := undef) ?a69 (by kernel_rfl) ?b69 ?c69 ?q69 ?y69 hHeld ?z69
    case a69 => (simp only [List.getElem?_toArray, List.getElem?_cons_succ, List.getElem?_cons_zero]; exact rfl)
    case b69 => kernel_rfl
    case c69 => kernel_rfl
    case q69 => exact fun _ _ _ h => h
    case y69 =>
     exact Or.inr ⟨by rfl, rfl⟩
    try simp only [Act.put, List.setIfInBounds_toArray, List.set_cons_zero, List.set_cons_succ]
    refine wpAnyH_take (i := 20) (oi := ?p70) (v := undef) ?a70 (by kernel_rfl) ?b70 ?c70 ?q70 ?y70 hHeld ?z70
    case a70 => (simp only [List.getElem?_toArray, List.getElem?_cons_succ, List.getElem?_cons_zero]; exact rfl)
    case b70 => kernel_rfl
    case c70 => kernel_rfl
    case q70 => exact fun _ _ _ h => h
    case y70 =>
     exact Or.inr ⟨by rfl, rfl⟩
    try simp only [Act.put, List.setIfInBounds_toArray, List.set_cons_zero, List.set_cons_succ]
    refine wpAnyH_take (i := 21) (oi := ?p71) (v := undef) ?a71 (by kernel_rfl) ?b71 ?c71 ?q71 ?y71 hHeld ?z71
    case a71 => (simp only [List.getElem?_toArray, List.getElem?_cons_succ, List.getElem?_cons_zero]; exact rfl)
    case b71 => kernel_rfl
    case c71 => kernel_rfl
    case q71 => exact fun _ _ _ h => h
    case y71 =>
     exact Or.inr ⟨by rfl, rfl⟩
    try simp only [Act.put, List.setIfInBounds_toArray, List.set_cons_zero, List.set_cons_succ]
    refine wpAnyH_take (i := 22) (oi := ?p72) (v := undef) ?a72 (by kernel_rfl) ?b72 ?c72 ?q72 ?y72 hHeld ?z72
    case a72 => (simp only [List.getElem?_toArray, List.getElem?_cons_succ, List.getElem?_cons_zero]; exact rfl)
    case b72 => kernel_rfl
    case c72 => kernel_rfl
    case q72 => exact fun _ _ _ h => h
    case y72 =>
     exact Or.inr ⟨by rfl, rfl⟩
    try simp only [Act.put, List.setIfInBounds_toArray, List.set_cons_zero, List.set_cons_succ]
    refine wpAnyH_take (i := 23) (oi := ?p73) (v := undef) ?a73 (by kernel_rfl) ?b73 ?c73 ?q73 ?y73 hHeld ?z73
    case a73 => (simp only [List.getElem?_toArray, List.getElem?_cons_succ, List.getElem?_cons_zero]; exact rfl)
    case b73 => kernel_rfl
    case c73 => kernel_rfl
    case q73 => exact fun _ _ _ h => h
    case y73 =>
     exact Or.inr ⟨by rfl, rfl⟩
    try simp only [Act.put, List.setIfInBounds_toArray, List.set_cons_zero, List.set_cons_succ]
    refine wpAnyH_take (i := 24) (oi := ?p74) (v := undef) ?a74 (by kernel_rfl) ?b74 ?c74 ?q74 ?y74 hHeld ?z74
    case a74 => (simp only [List.getElem?_toArray, List.getElem?_cons_succ, List.getElem?_cons_zero]; exact rfl)
    case b74 => kernel_rfl
    case c74 => kernel_rfl
    case q74 => exact fun _ _ _ h => h
    case y74 =>
     exact Or.inr ⟨by rfl, rfl⟩
    try simp only [Act.put, List.setIfInBounds_toArray, List.set_cons_zero, List.set_cons_succ]
    refine wpAnyH_take (i := 25) (oi := ?p75) (v := undef) ?a75 (by kernel_rfl) ?b75 ?c75 ?q75 ?y75 hHeld ?z75
    case a75 => (simp only [List.getElem?_toArray, List.getElem?_cons_succ, List.getElem?_cons_zero]; exact rfl)
    case b75 => kernel_rfl
    case c75 => kernel_rfl
    case q75 => exact fun _ _ _ h => h
    case y75 =>
     exact Or.inr ⟨by rfl, rfl⟩
    try simp only [Act.put, List.setIfInBounds_toArray, List.set_cons_zero, List.set_cons_succ]
    refine wpAnyH_take (i := 26) (oi := ?p76) (v := undef) ?a76 (by kernel_rfl) ?b76 ?c76 ?q76 ?y76 hHeld ?z76
    case a76 => (simp only [List.getElem?_toArray, List.getElem?_cons_succ, List.getElem?_cons_zero]; exact rfl)
    case b76 => kernel_rfl
    case c76 => kernel_rfl
    case q76 => exact fun _ _ _ h => h
    case y76 =>
     exact Or.inr ⟨by rfl, rfl⟩
    try simp only [Act.put, List.setIfInBounds_toArray, List.set_cons_zero, List.set_cons_succ]
    refine wpAnyH_take (i := 27) (oi := ?p77) (v := undef) ?a77 (by kernel_rfl) ?b77 ?c77 ?q77 ?y77 hHeld ?z77
    case a77 => (simp only [List.getElem?_toArray, List.getElem?_cons_succ, List.getElem?_cons_zero]; exact rfl)
    case b77 => kernel_rfl
    case c77 => kernel_rfl
    case q77 => exact fun _ _ _ h => h
    case y77 =>
     exact Or.inr ⟨by rfl, rfl⟩
    try simp only [Act.put, List.setIfInBounds_toArray, List.set_cons_zero, List.set_cons_succ]
    refine wpAnyH_take (i := 28) (oi := ?oid78) (v := .bool false) ?hod78 (by kernel_rfl) ?hfd78 ?hrd78 ?hQd78 ?hyd78 hHeld ?restd78
    case hod78 => (simp only [List.getElem?_toArray, List.getElem?_cons_succ, List.getElem?_cons_zero]; exact rfl)
    case hfd78 => kernel_rfl
    case hrd78 => kernel_rfl
    case hQd78 => exact fun _ _ _ h => h
    case hyd78 =>
     refine Or.inl ⟨by rfl, ?_⟩
     intro V hSV
     go_simp
     (try with_reducible rfl)
    try simp only [Act.put, List.setIfInBounds_toArray, List.set_cons_zero, List.set_cons_succ]
    refine wpAnyH_done (by kernel_rfl) ?_ _
    clear hHeld
    try rw [World.drewN_drewN]
    obtain ⟨q, hq⟩ : ∃ q, q = 1 + q1 := ⟨_, rfl⟩
    rw [← hq]
    clear hq
    have HBU := Lib.hid (show Bk (w.drewN q) g PT (pzC AW nW cW k sz AN nN cN AV nV cV e0 a0) from HB.out)
    have HWU := Lib.hid (show OwV 127 (w.drewN q) base AW cW nW ws from HW.out)
    have HNU := Lib.hid (show OwS (w.drewN q) base AN cN nN names from HN.out)
    have HVU := Lib.hid (show OwS (w.drewN q) base AV cV nV vars from HV.out)
    have HKU := Lib.hid ((Kp.refl base g w).drews q)
    clear HB HW HN HV HKD HRN c0 c1 c3 c5 f3
    try clear HIX
    try clear r1
    generalize w.drewN q = U at HBU HWU HNU HVU HKU ⊢
    have c0 : U.cell? ⟨g, 0, none⟩ = some (.slice AW nW cW) := HBU.out.cell 0
    have c1 : U.cell? ⟨g, 1, none⟩ = some (.int .i64 (k : Int)) := HBU.out.cell 1
    have c3 : U.cell? ⟨g, 3, none⟩ = some (.slice AN nN cN) := HBU.out.cell 3
    have c5 : U.cell? ⟨g, 5, none⟩ = some (.int .i64 ((e0 : Nat) : Int)) := HBU.out.cell 5
    repeat (first | go_skip | go_guarded | go_step)
    have HWD := Lib.hid (show ∀ q, Calls Tryz.prog 61 #[.pointer (some ⟨g, 0, none⟩), .int .u8 1] (U.drewN q) fun e w' => e = .returned (sv ⟨#[]⟩) ∧ Only g U w' ∧ k ≤ nW ∧ Bk w' g PT (pzC AW nW cW k sz AN nN cN AV nV cV e0 a0) ∧ k ≤ nW from fun q => by
     refine (pWord_any 1 base ws (U.drewN q) HBU.out HWU.out hk (by omega) (by omega)).mono ?_
     rintro e w' ⟨ht, hd⟩
     have ht' : Only g U w' := Turn.trans (Turn.ofBelow (G := fun j => j = g) (belowDrews (Below.refl _ U) q)) ht
     rcases hd with ⟨h1, h2, h3, h4, h5⟩ | ⟨h1, h2, h3, h4⟩ | ⟨h1, h3, h4⟩
     ·
      exact absurd h1 HE.out
     ·
      exact absurd h1 HE.out
     ·
      exact ⟨h3, ht', hk, h4, hk⟩)
    obtain ⟨T, hT⟩ : ∃ T : ByteArray, T = ⟨#[]⟩ := ⟨_, rfl⟩
    rw [← hT] at HWD
    have HTX := Lib.hid hT
    clear hT
    cases hfo : findO names T with
    | some i =>
     have hi5 : i < 5000 := Nat.lt_of_lt_of_le (findO_lt hfo) (by have := HNL.out; omega)
     have HZ := Lib.hid (show findZ names T = (i : Int) by unfold findZ; rw [hfo])
     have hwr : IntKind.u32.wrap (i : Int) = (i : Int) := by rw [IntKind.wrap_u32] <;> omega
     clear hfo
     refine wp_region_held_drew (S := fun V => V.cell? ⟨g, 3, none⟩ = some (.slice AN nN cN)) (by kernel_rfl) ?_ (fun hHeld => ?_)
     ·
      exact c3
     refine wpAnyH_take (i := 0) (oi := ?p79) (v := ?v79) ?a79 (by kernel_rfl) ?b79 ?c79 ?q79 ?y79 hHeld ?z79
     case a79 => (simp only [List.getElem?_toArray, List.getElem?_cons_succ, List.getElem?_cons_zero]; exact rfl)
     case b79 => kernel_rfl
     case c79 => kernel_rfl
     case q79 => exact fun _ _ _ h => h
     case y79 =>
      refine Or.inl ⟨by rfl, ?_⟩
      intro V hSV
      go_simp
      (try with_reducible rfl)
     try simp only [Act.put, List.setIfInBounds_toArray, List.set_cons_zero, List.set_cons_succ]
     refine wpAnyH_take (i := 1) (oi := ?p80) (v := ?v80) ?a80 (by kernel_rfl) ?b80 ?c80 ?q80 ?y80 hHeld ?z80
     case a80 => (simp only [List.getElem?_toArray, List.getElem?_cons_succ, List.getElem?_cons_zero]; exact rfl)
     case b80 => kernel_rfl
     case c80 => kernel_rfl
     case q80 => exact fun _ _ _ h => h
     case y80 =>
      refine Or.inl ⟨by rfl, ?_⟩
      intro V hSV
      go_simp
      (try with_reducible rfl)
     try simp only [Act.put, List.setIfInBounds_toArray, List.set_cons_zero, List.set_cons_succ]
     refine wpAnyH_take (i := 2) (oi := ?p81) (v := ?v81) ?a81 (by kernel_rfl) ?b81 ?c81 ?q81 ?y81 hHeld ?z81
     case a81 => (simp only [List.getElem?_toArray, List.getElem?_cons_succ, List.getElem?_cons_zero]; exact rfl)
     case b81 => kernel_rfl
     case c81 => kernel_rfl
     case q81 => exact fun _ _ _ h => h
     case y81 =>
      refine Or.inl ⟨by rfl, ?_⟩
      intro V hSV
      go_simp
      (try with_reducible rfl)
     try simp only [Act.put, List.setIfInBounds_toArray, List.set_cons_zero, List.set_cons_succ]
     refine wpAnyH_take (i := 3) (oi := ?p82) (v := ?v82) ?a82 (by kernel_rfl) ?b82 ?c82 ?q82 ?y82 hHeld ?z82
     case a82 => (simp only [List.getElem?_toArray, List.getElem?_cons_succ, List.getElem?_cons_zero]; exact rfl)
     case b82 => kernel_rfl
     case c82 => kernel_rfl
     case q82 => exact fun _ _ _ h => h
     case y82 =>
      refine Or.inl ⟨by rfl, ?_⟩
      intro V hSV
      go_simp
      (try with_reducible rfl)
     try simp only [Act.put, List.setIfInBounds_toArray, List.set_cons_zero, List.set_cons_succ]
     refine wpAnyH_take (i := 4) (oi := ?p83) (v := ?v83) ?a83 (by kernel_rfl) ?b83 ?c83 ?q83 ?y83 hHeld ?z83
     case a83 => (simp only [List.getElem?_toArray, List.getElem?_cons_succ, List.getElem?_cons_zero]; exact rfl)
     case b83 => kernel_rfl
     case c83 => kernel_rfl
     case q83 => exact fun _ _ _ h => h
     case y83 =>
      refine Or.inl ⟨by rfl, ?_⟩
      intro V hSV
      go_simp
      (try with_reducible rfl)
     try simp only [Act.put, List.setIfInBounds_toArray, List.set_cons_zero, List.set_cons_succ]
     refine wpAnyH_ready (rs := [5]) (by kernel_rfl) (by simp) ?_
     refine AllReadyH.cons (o := ?od84) ?hod84 (fun K hK => ?kd84) ?md84
     case hod84 => (simp only [List.getElem?_toArray, List.getElem?_cons_succ, List.getElem?_cons_zero]; exact rfl)
     case kd84 =>
      go_simp
      refine (HWD.out 1).mono ?_
      rintro e V ⟨rfl, ht2, _, hb2, hk2⟩
      have HT2 := Lib.hid ht2
      have HB2 := Lib.hid hb2
      have HIX2 := Lib.hid (pIndex_any AN nN cN names T V (Rd.ofOwn (own_only HNU.out HBU.out (by decide) ht2)) (by omega))
      rw [HZ.out] at HIX2
      clear ht2 hb2
      (try dsimp only)
      refine hK.out _ _ ?_ (fun hHeld => ?_)
      ·
       exact HB2.out.cell 3
      clear hK K
      try simp only [Act.put, List.setIfInBounds_toArray, List.set_cons_zero, List.set_cons_succ]
      refine wpAnyH_ready (rs := [6]) (by kernel_rfl) (by simp) ?_
      refine AllReadyH.cons (o := ?od85) ?hod85 (fun K hK => ?kd85) ?md85
      case hod85 => (simp only [List.getElem?_toArray, List.getElem?_cons_succ, List.getElem?_cons_zero]; exact rfl)
      case kd85 =>
       go_simp
       refine HIX2.out.mono ?_
       rintro e V2 ⟨rfl, rfl⟩
       (try dsimp only)
       refine hK.out _ _ ?_ (fun hHeld => ?_)
       ·
        exact HB2.out.cell 3
       clear hK K
       try simp only [Act.put, List.setIfInBounds_toArray, List.set_cons_zero, List.set_cons_succ]
       refine wpAnyH_take (i := 7) (oi := ?p86) (v := ?v86) ?a86 (by kernel_rfl) ?b86 ?c86 ?q86 ?y86 hHeld ?z86
       case a86 => (simp only [List.getElem?_toArray, List.getElem?_cons_succ, List.getElem?_cons_zero]; exact rfl)
       case b86 => kernel_rfl
       case c86 => kernel_rfl
       case q86 => exact fun _ _ _ h => h
       case y86 =>
        refine Or.inl ⟨by rfl, ?_⟩
        intro V hSV
        go_simp
        (try with_reducible rfl)
       try simp only [Act.put, List.setIfInBounds_toArray, List.set_cons_zero, List.set_cons_succ]
       refine wpAnyH_take (i := 8) (oi := ?p87) (v := ?v87) ?a87 (by kernel_rfl) ?b87 ?c87 ?q87 ?y87 hHeld ?z87
       case a87 => (simp only [List.getElem?_toArray, List.getElem?_cons_succ, List.getElem?_cons_zero]; exact rfl)
       case b87 => kernel_rfl
       case c87 => kernel_rfl
       case q87 => exact fun _ _ _ h => h
       case y87 =>
        refine Or.inl ⟨by rfl, ?_⟩
        intro V hSV
        go_simp
        (try with_reducible rfl)
       try simp only [Act.put, List.setIfInBounds_toArray, List.set_cons_zero, List.set_cons_succ]
       refine wpAnyH_take (i := 9) (oi := ?p88) (v := ?v88) ?a88 (by kernel_rfl) ?b88 ?c88 ?q88 ?y88 hHeld ?z88
       case a88 => (simp only [List.getElem?_toArray, List.getElem?_cons_succ, List.getElem?_cons_zero]; exact rfl)
       case b88 => kernel_rfl
       case c88 => kernel_rfl
       case q88 => exact fun _ _ _ h => h
       case y88 =>
        refine Or.inl ⟨by rfl, ?_⟩
        intro V hSV
        go_simp
        (try with_reducible rfl)
       try simp only [Act.put, List.setIfInBounds_toArray, List.set_cons_zero, List.set_cons_succ]
       refine wpAnyH_done (by kernel_rfl) ?_ _
       clear hHeld
       repeat (first | go_skip | go_guarded | go_step)
       go_ret
       exact ⟨i, by first | rfl | simp, by omega, mkSt (x := goE _ (nameE sz)) hg HBU.out HB2.out HWU.out HNU.out HVU.out HNE.out hk2 hW hN hV HT2.out (by exact HST.out), (fun s u s2 h => by cases h), HKU.out.trans (Kp.only HT2.out hg HBU.out.lt)⟩
      exact AllReadyH.nil
     exact AllReadyH.nil
    | none =>
     have HZ := Lib.hid (show findZ names T = -1 by unfold findZ; rw [hfo])
     clear hfo
     refine wp_region_held_drew (S := fun V => V.cell? ⟨g, 3, none⟩ = some (.slice AN nN cN)) (by kernel_rfl) ?_ (fun hHeld => ?_)
     ·
      exact c3
     refine wpAnyH_take (i := 0) (oi := ?p89) (v := ?v89) ?a89 (by kernel_rfl) ?b89 ?c89 ?q89 ?y89 hHeld ?z89
     case a89 => (simp only [List.getElem?_toArray, List.getElem?_cons_succ, List.getElem?_cons_zero]; exact rfl)
     case b89 => kernel_rfl
     case c89 => kernel_rfl
     case q89 => exact fun _ _ _ h => h
     case y89 =>
      refine Or.inl ⟨by rfl, ?_⟩
      intro V hSV
      go_simp
      (try with_reducible rfl)
     try simp only [Act.put, List.setIfInBounds_toArray, List.set_cons_zero, List.set_cons_succ]
     refine wpAnyH_take (i := 1) (oi := ?p90) (v := ?v90) ?a90 (by kernel_rfl) ?b90 ?c90 ?q90 ?y90 hHeld ?z90
     case a90 => (simp only [List.getElem?_toArray, List.getElem?_cons_succ, List.getElem?_cons_zero]; exact rfl)
     case b90 => kernel_rfl
     case c90 => kernel_rfl
     case q90 => exact fun _ _ _ h => h
     case y90 =>
      refine Or.inl ⟨by rfl, ?_⟩
      intro V hSV
      go_simp
      (try with_reducible rfl)
     try simp only [Act.put, List.setIfInBounds_toArray, List.set_cons_zero, List.set_cons_succ]
     refine wpAnyH_take (i := 2) (oi := ?p91) (v := ?v91) ?a91 (by kernel_rfl) ?b91 ?c91 ?q91 ?y91 hHeld ?z91
     case a91 => (simp only [List.getElem?_toArray, List.getElem?_cons_succ, List.getElem?_cons_zero]; exact rfl)
     case b91 => kernel_rfl
     case c91 => kernel_rfl
     case q91 => exact fun _ _ _ h => h
     case y91 =>
      refine Or.inl ⟨by rfl, ?_⟩
      intro V hSV
      go_simp
      (try with_reducible rfl)
     try simp only [Act.put, List.setIfInBounds_toArray, List.set_cons_zero, List.set_cons_succ]
     refine wpAnyH_take (i := 3) (oi := ?p92) (v := ?v92) ?a92 (by kernel_rfl) ?b92 ?c92 ?q92 ?y92 hHeld ?z92
     case a92 => (simp only [List.getElem?_toArray, List.getElem?_cons_succ, List.getElem?_cons_zero]; exact rfl)
     case b92 => kernel_rfl
     case c92 => kernel_rfl
     case q92 => exact fun _ _ _ h => h
     case y92 =>
      refine Or.inl ⟨by rfl, ?_⟩
      intro V hSV
      go_simp
      (try with_reducible rfl)
     try simp only [Act.put, List.setIfInBounds_toArray, List.set_cons_zero, List.set_cons_succ]
     refine wpAnyH_take (i := 4) (oi := ?p93) (v := ?v93) ?a93 (by kernel_rfl) ?b93 ?c93 ?q93 ?y93 hHeld ?z93
     case a93 => (simp only [List.getElem?_toArray, List.getElem?_cons_succ, List.getElem?_cons_zero]; exact rfl)
     case b93 => kernel_rfl
     case c93 => kernel_rfl
     case q93 => exact fun _ _ _ h => h
     case y93 =>
      refine Or.inl ⟨by rfl, ?_⟩
      intro V hSV
      go_simp
      (try with_reducible rfl)
     try simp only [Act.put, List.setIfInBounds_toArray, List.set_cons_zero, List.set_cons_succ]
     refine wpAnyH_ready (rs := [5]) (by kernel_rfl) (by simp) ?_
     refine AllReadyH.cons (o := ?od94) ?hod94 (fun K hK => ?kd94) ?md94
     case hod94 => (simp only [List.getElem?_toArray, List.getElem?_cons_succ, List.getElem?_cons_zero]; exact rfl)
     case kd94 =>
      go_simp
      refine (HWD.out 1).mono ?_
      rintro e V ⟨rfl, ht2, _, hb2, hk2⟩
      have HT2 := Lib.hid ht2
      have HB2 := Lib.hid hb2
      have HIX2 := Lib.hid (pIndex_any AN nN cN names T V (Rd.ofOwn (own_only HNU.out HBU.out (by decide) ht2)) (by omega))
      rw [HZ.out] at HIX2
      clear ht2 hb2
      (try dsimp only)
      refine hK.out _ _ ?_ (fun hHeld => ?_)
      ·
       exact HB2.out.cell 3
      clear hK K
      try simp only [Act.put, List.setIfInBounds_toArray, List.set_cons_zero, List.set_cons_succ]
      refine wpAnyH_ready (rs := [6]) (by kernel_rfl) (by simp) ?_
      refine AllReadyH.cons (o := ?od95) ?hod95 (fun K hK => ?kd95) ?md95
      case hod95 => (simp only [List.getElem?_toArray, List.getElem?_cons_succ, List.getElem?_cons_zero]; exact rfl)
      case kd95 =>
       go_simp
       refine HIX2.out.mono ?_
       rintro e V2 ⟨rfl, rfl⟩
       (try dsimp only)
       refine hK.out _ _ ?_ (fun hHeld => ?_)
       ·
        exact HB2.out.cell 3
       clear hK K
       try simp only [Act.put, List.setIfInBounds_toArray, List.set_cons_zero, List.set_cons_succ]
       refine wpAnyH_take (i := 7) (oi := ?p96) (v := ?v96) ?a96 (by kernel_rfl) ?b96 ?c96 ?q96 ?y96 hHeld ?z96
       case a96 => (simp only [List.getElem?_toArray, List.getElem?_cons_succ, List.getElem?_cons_zero]; exact rfl)
       case b96 => kernel_rfl
       case c96 => kernel_rfl
       case q96 => exact fun _ _ _ h => h
       case y96 =>
        refine Or.inl ⟨by rfl, ?_⟩
        intro V hSV
        go_simp
        (try with_reducible rfl)
       try simp only [Act.put, List.setIfInBounds_toArray, List.set_cons_zero, List.set_cons_succ]
       refine wpAnyH_take (i := 8) (oi := ?p97) (v := ?v97) ?a97 (by kernel_rfl) ?b97 ?c97 ?q97 ?y97 hHeld ?z97
       case a97 => (simp only [List.getElem?_toArray, List.getElem?_cons_succ, List.getElem?_cons_zero]; exact rfl)
       case b97 => kernel_rfl
       case c97 => kernel_rfl
       case q97 => exact fun _ _ _ h => h
       case y97 =>
        refine Or.inl ⟨by rfl, ?_⟩
        intro V hSV
        go_simp
        (try with_reducible rfl)
       try simp only [Act.put, List.setIfInBounds_toArray, List.set_cons_zero, List.set_cons_succ]
       refine wpAnyH_take (i := 9) (oi := ?p98) (v := ?v98) ?a98 (by kernel_rfl) ?b98 ?c98 ?q98 ?y98 hHeld ?z98
       case a98 => (simp only [List.getElem?_toArray, List.getElem?_cons_succ, List.getElem?_cons_zero]; exact rfl)
       case b98 => kernel_rfl
       case c98 => kernel_rfl
       case q98 => exact fun _ _ _ h => h
       case y98 =>
        refine Or.inl ⟨by rfl, ?_⟩
        intro V hSV
        go_simp
        (try with_reducible rfl)
       try simp only [Act.put, List.setIfInBounds_toArray, List.set_cons_zero, List.set_cons_succ]
       refine wpAnyH_done (by kernel_rfl) ?_ _
       clear hHeld
       repeat (first | go_skip | go_guarded | go_step)
       go_ret
       exact ⟨0, by first | rfl | simp, by omega, mkSt (x := goE _ (nameE sz)) hg HBU.out HB2.out HWU.out HNU.out HVU.out HNE.out hk2 hW hN hV HT2.out (by exact HST.out), (fun s u s2 h => by cases h), HKU.out.trans (Kp.only HT2.out hg HBU.out.lt)⟩
      exact AllReadyH.nil
     exact AllReadyH.nil
   exact AllReadyH.nil
 | ok s =>
  obtain ⟨rfl, rfl⟩ := HST.out
  clear HST
  by_cases h1 : kk = 1
  ·
   have dk : ((kk : Int) == 1) = true := by rw [h1]; rfl
   have HKN := Lib.hid (show kindE (ws.drop k) = 1 by rw [← HKK.out]; exact h1)
   have hlt : k < nW := by
    by_cases h : k < nW
    ·
     exact h
    ·
     exfalso
     have h2 := HKN.out
     rw [List.drop_of_length_le (by rw [rdV_len (OwV.rd HW.out)]; omega)] at h2
     simp [kindE] at h2
   obtain ⟨b, o, ⟨k9, t9, a9⟩, hA, hbb, hx9, hc0, hc1, hc2⟩ := rdV_at (OwV.rd HW.out) hlt
   obtain ⟨T9, hT9⟩ : ∃ T : ByteArray, T = txE (ws.drop k) := ⟨_, rfl⟩
   have r1 : w.cell? ⟨b, o + k * 3 + 1, none⟩ = some (sv T9) := by
    rw [hT9, drop_at hx9]
    exact hc1
   have HT9 := Lib.hid hT9
   have hci : (k : Int) < (nW : Int) := by omega
   have HIX := Lib.hid (fun q => pIndex_any AN nN cN names T9 (w.drewN q) HRN.out (by omega))
   subst hA
   clear h1 hc0 hc1 hc2 hx9 hT9
   cases hfo : findO names T9 with
   | some i =>
    have hi5 : i < 5000 := Nat.lt_of_lt_of_le (findO_lt hfo) (by have := HNL.out; omega)
    have hz9 : findZ names T9 = (i : Int) := by unfold findZ; rw [hfo]
    rw [hz9] at HIX
    have dlt : decide ((i : Int) < 0) = false := by simp
    have HFO := Lib.hid (show findO names (txE (ws.drop k)) = some i by rw [← HT9.out]; exact hfo)
    have HNM := Lib.hid (show nameE sz (ws.drop k, names, vars) = .ok (i, (ws.drop (k + 1), names, vars)) by
     unfold nameE
     dsimp only
     rw [if_pos HKN.out, HFO.out]
     dsimp only [nextE]
     rw [List.tail_drop])
    clear hz9 hfo
    go_enter Tryz.func105, Tryz.ntmps105
    repeat (first | go_skip | go_guarded | go_step)
    refine wp_region_held_drew (S := fun V => ∃ q, V = w.drewN q) (by kernel_rfl) ?_ (fun hHeld => ?_)
    ·
     exact ⟨1, rfl⟩
    refine wpAnyH_take (i := 0) (oi := ?p99) (v := ?v99) ?a99 (by kernel_rfl) ?b99 ?c99 ?q99 ?y99 hHeld ?z99
    case a99 => (simp only [List.getElem?_toArray, List.getElem?_cons_succ, List.getElem?_cons_zero]; exact rfl)
    case b99 => kernel_rfl
    case c99 => kernel_rfl
    case q99 => exact fun _ _ _ h => h
    case y99 =>
     refine Or.inl ⟨by rfl, ?_⟩
     intro V hSV
     go_simp
     (try with_reducible rfl)
    try simp only [Act.put, List.setIfInBounds_toArray, List.set_cons_zero, List.set_cons_succ]
    refine wpAnyH_ready (rs := [1]) (by kernel_rfl) (by simp) ?_
    refine AllReadyH.cons (o := ?od100) ?hod100 (fun K hK => ?kd100) ?md100
    case hod100 => (simp only [List.getElem?_toArray, List.getElem?_cons_succ, List.getElem?_cons_zero]; exact rfl)
    case kd100 =>
     go_simp
     refine (HKD.out 1).mono ?_
     rintro e V ⟨rfl, q1, rfl⟩
     (try dsimp only)
     refine hK.out _ _ ?_ (fun hHeld => ?_)
     ·
      exact ⟨1 + q1, World.drewN_drewN _ _ _⟩
     clear hK K
     try simp only [Act.put, List.setIfInBounds_toArray, List.set_cons_zero, List.set_cons_succ]
     refine wpAnyH_take (i := 2) (oi := ?oid101) (v := .bool true) ?hod101 (by kernel_rfl) ?hfd101 ?hrd101 ?hQd101 ?hyd101 hHeld ?restd101
     case hod101 => (simp only [List.getElem?_toArray, List.getElem?_cons_succ, List.getElem?_cons_zero]; exact rfl)
     case hfd101 => kernel_rfl
     case hrd101 => kernel_rfl
     case hQd101 => exact fun _ _ _ h => h
     case hyd101 =>
      refine Or.inl ⟨by rfl, ?_⟩
      intro V hSV
      go_simp
      (try with_reducible rfl)
     try simp only [Act.put, List.setIfInBounds_toArray, List.set_cons_zero, List.set_cons_succ]
     refine wpAnyH_take (i := 3) (oi := ?oid102) (v := .bool true) ?hod102 (by kernel_rfl) ?hfd102 ?hrd102 ?hQd102 ?hyd102 hHeld ?restd102
     case hod102 => (simp only [List.getElem?_toArray, List.getElem?_cons_succ, List.getElem?_cons_zero]; exact rfl)
     case hfd102 => kernel_rfl
     case hrd102 => kernel_rfl
     case hQd102 => exact fun _ _ _ h => h
     case hyd102 =>
      refine Or.inl ⟨by rfl, ?_⟩
      intro V hSV
      go_simp
      (try with_reducible rfl)
     try simp only [Act.put, List.setIfInBounds_toArray, List.set_cons_zero, List.set_cons_succ]
     refine wpAnyH_take (i := 4) (oi := ?p103) (v := ?v103) ?a103 (by kernel_rfl) ?b103 ?c103 ?q103 ?y103 hHeld ?z103
     case a103 => (simp only [List.getElem?_toArray, List.getElem?_cons_succ, List.getElem?_cons_zero]; exact rfl)
     case b103 => kernel_rfl
     case c103 => kernel_rfl
     case q103 => exact fun _ _ _ h => h
     case y103 =>
      refine Or.inl ⟨by rfl, ?_⟩
      intro V hSV
      go_simp
      (try with_reducible rfl)
     try simp only [Act.put, List.setIfInBounds_toArray, List.set_cons_zero, List.set_cons_succ]
     refine wpAnyH_take (i := 5) (oi := ?p104) (v := ?v104) ?a104 (by kernel_rfl) ?b104 ?c104 ?q104 ?y104 hHeld ?z104
     case a104 => (simp only [List.getElem?_toArray, List.getElem?_cons_succ, List.getElem?_cons_zero]; exact rfl)
     case b104 => kernel_rfl
     case c104 => kernel_rfl
     case q104 => exact fun _ _ _ h => h
     case y104 =>
      refine Or.inl ⟨by rfl, ?_⟩
      intro V hSV
      go_simp
      (try with_reducible rfl)
     try simp only [Act.put, List.setIfInBounds_toArray, List.set_cons_zero, List.set_cons_succ]
     refine wpAnyH_take (i := 6) (oi := ?p105) (v := ?v105) ?a105 (by kernel_rfl) ?b105 ?c105 ?q105 ?y105 hHeld ?z105
     case a105 => (simp only [List.getElem?_toArray, List.getElem?_cons_succ, List.getElem?_cons_zero]; exact rfl)
     case b105 => kernel_rfl
     case c105 => kernel_rfl
     case q105 => exact fun _ _ _ h => h
     case y105 =>
      refine Or.inl ⟨by rfl, ?_⟩
      intro V hSV
      go_simp
      (try with_reducible rfl)
     try simp only [Act.put, List.setIfInBounds_toArray, List.set_cons_zero, List.set_cons_succ]
     refine wpAnyH_take (i := 7) (oi := ?p106) (v := ?v106) ?a106 (by kernel_rfl) ?b106 ?c106 ?q106 ?y106 hHeld ?z106
     case a106 => (simp only [List.getElem?_toArray, List.getElem?_cons_succ, List.getElem?_cons_zero]; exact rfl)
     case b106 => kernel_rfl
     case c106 => kernel_rfl
     case q106 => exact fun _ _ _ h => h
     case y106 =>
      refine Or.inl ⟨by rfl, ?_⟩
      intro V hSV
      obtain ⟨q, rfl⟩ := hSV
      go_simp
      (try with_reducible rfl)
     try simp only [Act.put, List.setIfInBounds_toArray, List.set_cons_zero, List.set_cons_succ]
     refine wpAnyH_take (i := 8) (oi := ?oid107) (v := .bool true) ?hod107 (by kernel_rfl) ?hfd107 ?hrd107 ?hQd107 ?hyd107 hHeld ?restd107
     case hod107 => (simp only [List.getElem?_toArray, List.getElem?_cons_succ, List.getElem?_cons_zero]; exact rfl)
     case hfd107 => kernel_rfl
     case hrd107 => kernel_rfl
     case hQd107 => exact fun _ _ _ h => h
     case hyd107 =>
      refine Or.inl ⟨by rfl, ?_⟩
      intro V hSV
      go_simp
      (try with_reducible rfl)
     try simp only [Act.put, List.setIfInBounds_toArray, List.set_cons_zero, List.set_cons_succ]
     refine wpAnyH_take (i := 9) (oi := ?oid108) (v := .bool true) ?hod108 (by kernel_rfl) ?hfd108 ?hrd108 ?hQd108 ?hyd108 hHeld ?restd108
     case hod108 => (simp only [List.getElem?_toArray, List.getElem?_cons_succ, List.getElem?_cons_zero]; exact rfl)
     case hfd108 => kernel_rfl
     case hrd108 => kernel_rfl
     case hQd108 => exact fun _ _ _ h => h
     case hyd108 =>
      refine Or.inl ⟨by rfl, ?_⟩
      intro V hSV
      go_simp
      (try with_reducible rfl)
     try simp only [Act.put, List.setIfInBounds_toArray, List.set_cons_zero, List.set_cons_succ]
     refine wpAnyH_take (i := 10) (oi := ?oid109) (v := .bool true) ?hod109 (by kernel_rfl) ?hfd109 ?hrd109 ?hQd109 ?hyd109 hHeld ?restd109
     case hod109 => (simp only [List.getElem?_toArray, List.getElem?_cons_succ, List.getElem?_cons_zero]; exact rfl)
     case hfd109 => kernel_rfl
     case hrd109 => kernel_rfl
     case hQd109 => exact fun _ _ _ h => h
     case hyd109 =>
      refine Or.inl ⟨by rfl, ?_⟩
      intro V hSV
      go_simp
      (try with_reducible rfl)
     try simp only [Act.put, List.setIfInBounds_toArray, List.set_cons_zero, List.set_cons_succ]
     refine wpAnyH_take (i := 11) (oi := ?p110) (v := ?v110) ?a110 (by kernel_rfl) ?b110 ?c110 ?q110 ?y110 hHeld ?z110
     case a110 => (simp only [List.getElem?_toArray, List.getElem?_cons_succ, List.getElem?_cons_zero]; exact rfl)
     case b110 => kernel_rfl
     case c110 => kernel_rfl
     case q110 => exact fun _ _ _ h => h
     case y110 =>
      refine Or.inl ⟨by rfl, ?_⟩
      intro V hSV
      go_simp
      (try with_reducible rfl)
     try simp only [Act.put, List.setIfInBounds_toArray, List.set_cons_zero, List.set_cons_succ]
     refine wpAnyH_take (i := 12) (oi := ?p111) (v := ?v111) ?a111 (by kernel_rfl) ?b111 ?c111 ?q111 ?y111 hHeld ?z111
     case a111 => (simp only [List.getElem?_toArray, List.getElem?_cons_succ, List.getElem?_cons_zero]; exact rfl)
     case b111 => kernel_rfl
     case c111 => kernel_rfl
     case q111 => exact fun _ _ _ h => h
     case y111 =>
      refine Or.inl ⟨by rfl, ?_⟩
      intro V hSV
      go_simp
      (try with_reducible rfl)
     try simp only [Act.put, List.setIfInBounds_toArray, List.set_cons_zero, List.set_cons_succ]
     refine wpAnyH_take (i := 13) (oi := ?p112) (v := ?v112) ?a112 (by kernel_rfl) ?b112 ?c112 ?q112 ?y112 hHeld ?z112
     case a112 => (simp only [List.getElem?_toArray, List.getElem?_cons_succ, List.getElem?_cons_zero]; exact rfl)
     case b112 => kernel_rfl
     case c112 => kernel_rfl
     case q112 => exact fun _ _ _ h => h
     case y112 =>
      refine Or.inl ⟨by rfl, ?_⟩
      intro V hSV
      go_simp
      (try with_reducible rfl)
     try simp only [Act.put, List.setIfInBounds_toArray, List.set_cons_zero, List.set_cons_succ]
     refine wpAnyH_take (i := 14) (oi := ?p113) (v := ?v113) ?a113 (by kernel_rfl) ?b113 ?c113 ?q113 ?y113 hHeld ?z113
     case a113 => (simp only [List.getElem?_toArray, List.getElem?_cons_succ, List.getElem?_cons_zero]; exact rfl)
     case b113 => kernel_rfl
     case c113 => kernel_rfl
     case q113 => exact fun _ _ _ h => h
     case y113 =>
      refine Or.inl ⟨by rfl, ?_⟩
      intro V hSV
      obtain ⟨q, rfl⟩ := hSV
      go_simp
      (try with_reducible rfl)
     try simp only [Act.put, List.setIfInBounds_toArray, List.set_cons_zero, List.set_cons_succ]
     refine wpAnyH_take (i := 15) (oi := ?p114) (v := ?v114) ?a114 (by kernel_rfl) ?b114 ?c114 ?q114 ?y114 hHeld ?z114
     case a114 => (simp only [List.getElem?_toArray, List.getElem?_cons_succ, List.getElem?_cons_zero]; exact rfl)
     case b114 => kernel_rfl
     case c114 => kernel_rfl
     case q114 => exact fun _ _ _ h => h
     case y114 =>
      refine Or.inl ⟨by rfl, ?_⟩
      intro V hSV
      go_simp
      (try with_reducible rfl)
     try simp only [Act.put, List.setIfInBounds_toArray, List.set_cons_zero, List.set_cons_succ]
     refine wpAnyH_take (i := 16) (oi := ?p115) (v := ?v115) ?a115 (by kernel_rfl) ?b115 ?c115 ?q115 ?y115 hHeld ?z115
     case a115 => (simp only [List.getElem?_toArray, List.getElem?_cons_succ, List.getElem?_cons_zero]; exact rfl)
     case b115 => kernel_rfl
     case c115 => kernel_rfl
     case q115 => exact fun _ _ _ h => h
     case y115 =>
      refine Or.inl ⟨by rfl, ?_⟩
      intro V hSV
      go_simp
      (try with_reducible rfl)
     try simp only [Act.put, List.setIfInBounds_toArray, List.set_cons_zero, List.set_cons_succ]
     refine wpAnyH_take (i := 17) (oi := ?p116) (v := ?v116) ?a116 (by kernel_rfl) ?b116 ?c116 ?q116 ?y116 hHeld ?z116
     case a116 => (simp only [List.getElem?_toArray, List.getElem?_cons_succ, List.getElem?_cons_zero]; exact rfl)
     case b116 => kernel_rfl
     case c116 => kernel_rfl
     case q116 => exact fun _ _ _ h => h
     case y116 =>
      refine Or.inl ⟨by rfl, ?_⟩
      intro V hSV
      go_simp
      (try with_reducible rfl)
     try simp only [Act.put, List.setIfInBounds_toArray, List.set_cons_zero, List.set_cons_succ]
     refine wpAnyH_take (i := 18) (oi := ?p117) (v := ?v117) ?a117 (by kernel_rfl) ?b117 ?c117 ?q117 ?y117 hHeld ?z117
     case a117 => (simp only [List.getElem?_toArray, List.getElem?_cons_succ, List.getElem?_cons_zero]; exact rfl)
     case b117 => kernel_rfl
     case c117 => kernel_rfl
     case q117 => exact fun _ _ _ h => h
     case y117 =>
      refine Or.inl ⟨by rfl, ?_⟩
      intro V hSV
      obtain ⟨q, rfl⟩ := hSV
      go_simp
      (try with_reducible rfl)
     try simp only [Act.put, List.setIfInBounds_toArray, List.set_cons_zero, List.set_cons_succ]
     refine wpAnyH_take (i := 19) (oi := ?p118) (v := ?v118) ?a118 (by kernel_rfl) ?b118 ?c118 ?q118 ?y118 hHeld ?z118
     case a118 => (simp only [List.getElem?_toArray, List.getElem?_cons_succ, List.getElem?_cons_zero]; exact rfl)
     case b118 => kernel_rfl
     case c118 => kernel_rfl
     case q118 => exact fun _ _ _ h => h
     case y118 =>
      refine Or.inl ⟨by rfl, ?_⟩
      intro V hSV
      go_simp
      (try with_reducible rfl)
     try simp only [Act.put, List.setIfInBounds_toArray, List.set_cons_zero, List.set_cons_succ]
     refine wpAnyH_take (i := 20) (oi := ?p119) (v := ?v119) ?a119 (by kernel_rfl) ?b119 ?c119 ?q119 ?y119 hHeld ?z119
     case a119 => (simp only [List.getElem?_toArray, List.getElem?_cons_succ, List.getElem?_cons_zero]; exact rfl)
     case b119 => kernel_rfl
     case c119 => kernel_rfl
     case q119 => exact fun _ _ _ h => h
     case y119 =>
      refine Or.inl ⟨by rfl, ?_⟩
      intro V hSV
      go_simp
      (try with_reducible rfl)
     try simp only [Act.put, List.setIfInBounds_toArray, List.set_cons_zero, List.set_cons_succ]
     refine wpAnyH_take (i := 21) (oi := ?p120) (v := ?v120) ?a120 (by kernel_rfl) ?b120 ?c120 ?q120 ?y120 hHeld ?z120
     case a120 => (simp only [List.getElem?_toArray, List.getElem?_cons_succ, List.getElem?_cons_zero]; exact rfl)
     case b120 => kernel_rfl
     case c120 => kernel_rfl
     case q120 => exact fun _ _ _ h => h
     case y120 =>
      refine Or.inl ⟨by rfl, ?_⟩
      intro V hSV
      go_simp
      (try with_reducible rfl)
     try simp only [Act.put, List.setIfInBounds_toArray, List.set_cons_zero, List.set_cons_succ]
     refine wpAnyH_take (i := 22) (oi := ?p121) (v := ?v121) ?a121 (by kernel_rfl) ?b121 ?c121 ?q121 ?y121 hHeld ?z121
     case a121 => (simp only [List.getElem?_toArray, List.getElem?_cons_succ, List.getElem?_cons_zero]; exact rfl)
     case b121 => kernel_rfl
     case c121 => kernel_rfl
     case q121 => exact fun _ _ _ h => h
     case y121 =>
      refine Or.inl ⟨by rfl, ?_⟩
      intro V hSV
      obtain ⟨q, rfl⟩ := hSV
      go_simp
      (try with_reducible rfl)
     try simp only [Act.put, List.setIfInBounds_toArray, List.set_cons_zero, List.set_cons_succ]
     refine wpAnyH_take (i := 23) (oi := ?p122) (v := ?v122) ?a122 (by kernel_rfl) ?b122 ?c122 ?q122 ?y122 hHeld ?z122
     case a122 => (simp only [List.getElem?_toArray, List.getElem?_cons_succ, List.getElem?_cons_zero]; exact rfl)
     case b122 => kernel_rfl
     case c122 => kernel_rfl
     case q122 => exact fun _ _ _ h => h
     case y122 =>
      refine Or.inl ⟨by rfl, ?_⟩
      intro V hSV
      go_simp
      (try with_reducible rfl)
     try simp only [Act.put, List.setIfInBounds_toArray, List.set_cons_zero, List.set_cons_succ]
     refine wpAnyH_take (i := 24) (oi := ?p123) (v := ?v123) ?a123 (by kernel_rfl) ?b123 ?c123 ?q123 ?y123 hHeld ?z123
     case a123 => (simp only [List.getElem?_toArray, List.getElem?_cons_succ, List.getElem?_cons_zero]; exact rfl)
     case b123 => kernel_rfl
     case c123 => kernel_rfl
     case q123 => exact fun _ _ _ h => h
     case y123 =>
      refine Or.inl ⟨by rfl, ?_⟩
      intro V hSV
      go_simp
      (try with_reducible rfl)
     try simp only [Act.put, List.setIfInBounds_toArray, List.set_cons_zero, List.set_cons_succ]
     refine wpAnyH_take (i := 25) (oi := ?p124) (v := ?v124) ?a124 (by kernel_rfl) ?b124 ?c124 ?q124 ?y124 hHeld ?z124
     case a124 => (simp only [List.getElem?_toArray, List.getElem?_cons_succ, List.getElem?_cons_zero]; exact rfl)
     case b124 => kernel_rfl
     case c124 => kernel_rfl
     case q124 => exact fun _ _ _ h => h
     case y124 =>
      refine Or.inl ⟨by rfl, ?_⟩
      intro V hSV
      obtain ⟨q, rfl⟩ := hSV
      go_simp
      (try with_reducible rfl)
     try simp only [Act.put, List.setIfInBounds_toArray, List.set_cons_zero, List.set_cons_succ]
     refine wpAnyH_ready (rs := [26]) (by kernel_rfl) (by simp) ?_
     refine AllReadyH.cons (o := ?od125) ?hod125 (fun K hK => ?kd125) ?md125
     case hod125 => (simp only [List.getElem?_toArray, List.getElem?_cons_succ, List.getElem?_cons_zero]; exact rfl)
     case kd125 =>
      go_simp
      refine (HIX.out (1 + q1)).mono ?_
      rintro e V ⟨rfl, rfl⟩
      (try dsimp only)
      refine hK.out _ _ ?_ (fun hHeld => ?_)
      ·
       exact ⟨1 + q1, rfl⟩
      clear hK K
      try simp only [Act.put, List.setIfInBounds_toArray, List.set_cons_zero, List.set_cons_succ]
      refine wpAnyH_take (i := 27) (oi := ?oid126) (v := .bool false) ?hod126 (by kernel_rfl) ?hfd126 ?hrd126 ?hQd126 ?hyd126 hHeld ?restd126
      case hod126 => (simp only [List.getElem?_toArray, List.getElem?_cons_succ, List.getElem?_cons_zero]; exact rfl)
      case hfd126 => kernel_rfl
      case hrd126 => kernel_rfl
      case hQd126 => exact fun _ _ _ h => h
      case hyd126 =>
       refine Or.inl ⟨by rfl, ?_⟩
       intro V hSV
       go_simp
       (try with_reducible rfl)
      try simp only [Act.put, List.setIfInBounds_toArray, List.set_cons_zero, List.set_cons_succ]
      refine wpAnyH_take (i := 28) (oi := ?oid127) (v := .bool false) ?hod127 (by kernel_rfl) ?hfd127 ?hrd127 ?hQd127 ?hyd127 hHeld ?restd127
      case hod127 => (simp only [List.getElem?_toArray, List.getElem?_cons_succ, List.getElem?_cons_zero]; exact rfl)
      case hfd127 => kernel_rfl
      case hrd127 => kernel_rfl
      case hQd127 => exact fun _ _ _ h => h
      case hyd127 =>
       refine Or.inl ⟨by rfl, ?_⟩
       intro V hSV
       go_simp
       (try with_reducible rfl)
      try simp only [Act.put, List.setIfInBounds_toArray, List.set_cons_zero, List.set_cons_succ]
      refine wpAnyH_done (by kernel_rfl) ?_ _
      clear hHeld
      try rw [World.drewN_drewN]
      obtain ⟨q, hq⟩ : ∃ q, q = 1 + q1 := ⟨_, rfl⟩
      rw [← hq]
      clear hq
      have HBU := Lib.hid (show Bk (w.drewN q) g PT (pzC (some ⟨b, o, none⟩) nW cW k sz AN nN cN AV nV cV 0 a0) from HB.out)
      have HWU := Lib.hid (show OwV 127 (w.drewN q) base (some ⟨b, o, none⟩) cW nW ws from HW.out)
      have HNU := Lib.hid (show OwS (w.drewN q) base AN cN nN names from HN.out)
      have HVU := Lib.hid (show OwS (w.drewN q) base AV cV nV vars from HV.out)
      have HKU := Lib.hid ((Kp.refl base g w).drews q)
      clear HB HW HN HV HKD HRN c0 c1 c3 c5 f3
      try clear HIX
      try clear r1
      generalize w.drewN q = U at HBU HWU HNU HVU HKU ⊢
      have c0 : U.cell? ⟨g, 0, none⟩ = some (.slice (some ⟨b, o, none⟩) nW cW) := HBU.out.cell 0
      have c1 : U.cell? ⟨g, 1, none⟩ = some (.int .i64 (k : Int)) := HBU.out.cell 1
      have c3 : U.cell? ⟨g, 3, none⟩ = some (.slice AN nN cN) := HBU.out.cell 3
      have c5 : U.cell? ⟨g, 5, none⟩ = some (.int .i64 ((0 : Nat) : Int)) := HBU.out.cell 5
      repeat (first | go_skip | go_guarded | go_step)
      have HWD := Lib.hid (show ∀ q, Calls Tryz.prog 61 #[.pointer (some ⟨g, 0, none⟩), .int .u8 1] (U.drewN q) fun e w' => e = .returned (sv (txE (ws.drop k))) ∧ Only g U w' ∧ k ≤ nW ∧ Bk w' g PT (pzC (some ⟨b, o, none⟩) nW cW (k + 1) sz AN nN cN AV nV cV 0 a0) ∧ (k + 1) ≤ nW from fun q => by
       refine (pWord_any 1 base ws (U.drewN q) HBU.out HWU.out hk (by omega) (by omega)).mono ?_
       rintro e w' ⟨ht, hd⟩
       have ht' : Only g U w' := Turn.trans (Turn.ofBelow (G := fun j => j = g) (belowDrews (Below.refl _ U) q)) ht
       rcases hd with ⟨h1, h2, h3, h4, h5⟩ | ⟨h1, h2, h3, h4⟩ | ⟨h1, h3, h4⟩
       ·
        exact ⟨h3, ht', hk, h5, h4⟩
       ·
        exact absurd HKN.out h2
       ·
        exact absurd rfl h1)
      obtain ⟨T, hT⟩ : ∃ T : ByteArray, T = (txE (ws.drop k)) := ⟨_, rfl⟩
      rw [← hT] at HWD
      have HTX := Lib.hid hT
      clear hT
      have HZ := Lib.hid (show findZ names T = (i : Int) by unfold findZ; rw [HTX.out, HFO.out])
      have hwr : IntKind.u32.wrap (i : Int) = (i : Int) := by rw [IntKind.wrap_u32] <;> omega
      refine wp_region_held_drew (S := fun V => V.cell? ⟨g, 3, none⟩ = some (.slice AN nN cN)) (by kernel_rfl) ?_ (fun hHeld => ?_)
      ·
       exact c3
      refine wpAnyH_take (i := 0) (oi := ?p128) (v := ?v128) ?a128 (by kernel_rfl) ?b128 ?c128 ?q128 ?y128 hHeld ?z128
      case a128 => (simp only [List.getElem?_toArray, List.getElem?_cons_succ, List.getElem?_cons_zero]; exact rfl)
      case b128 => kernel_rfl
      case c128 => kernel_rfl
      case q128 => exact fun _ _ _ h => h
      case y128 =>
       refine Or.inl ⟨by rfl, ?_⟩
       intro V hSV
       go_simp
       (try with_reducible rfl)
      try simp only [Act.put, List.setIfInBounds_toArray, List.set_cons_zero, List.set_cons_succ]
      refine wpAnyH_take (i := 1) (oi := ?p129) (v := ?v129) ?a129 (by kernel_rfl) ?b129 ?c129 ?q129 ?y129 hHeld ?z129
      case a129 => (simp only [List.getElem?_toArray, List.getElem?_cons_succ, List.getElem?_cons_zero]; exact rfl)
      case b129 => kernel_rfl
      case c129 => kernel_rfl
      case q129 => exact fun _ _ _ h => h
      case y129 =>
       refine Or.inl ⟨by rfl, ?_⟩
       intro V hSV
       go_simp
       (try with_reducible rfl)
      try simp only [Act.put, List.setIfInBounds_toArray, List.set_cons_zero, List.set_cons_succ]
      refine wpAnyH_take (i := 2) (oi := ?p130) (v := ?v130) ?a130 (by kernel_rfl) ?b130 ?c130 ?q130 ?y130 hHeld ?z130
      case a130 => (simp only [List.getElem?_toArray, List.getElem?_cons_succ, List.getElem?_cons_zero]; exact rfl)
      case b130 => kernel_rfl
      case c130 => kernel_rfl
      case q130 => exact fun _ _ _ h => h
      case y130 =>
       refine Or.inl ⟨by rfl, ?_⟩
       intro V hSV
       go_simp
       (try with_reducible rfl)
      try simp only [Act.put, List.setIfInBounds_toArray, List.set_cons_zero, List.set_cons_succ]
      refine wpAnyH_take (i := 3) (oi := ?p131) (v := ?v131) ?a131 (by kernel_rfl) ?b131 ?c131 ?q131 ?y131 hHeld ?z131
      case a131 => (simp only [List.getElem?_toArray, List.getElem?_cons_succ, List.getElem?_cons_zero]; exact rfl)
      case b131 => kernel_rfl
      case c131 => kernel_rfl
      case q131 => exact fun _ _ _ h => h
      case y131 =>
       refine Or.inl ⟨by rfl, ?_⟩
       intro V hSV
       go_simp
       (try with_reducible rfl)
      try simp only [Act.put, List.setIfInBounds_toArray, List.set_cons_zero, List.set_cons_succ]
      refine wpAnyH_take (i := 4) (oi := ?p132) (v := ?v132) ?a132 (by kernel_rfl) ?b132 ?c132 ?q132 ?y132 hHeld ?z132
      case a132 => (simp only [List.getElem?_toArray, List.getElem?_cons_succ, List.getElem?_cons_zero]; exact rfl)
      case b132 => kernel_rfl
      case c132 => kernel_rfl
      case q132 => exact fun _ _ _ h => h
      case y132 =>
       refine Or.inl ⟨by rfl, ?_⟩
       intro V hSV
       go_simp
       (try with_reducible rfl)
      try simp only [Act.put, List.setIfInBounds_toArray, List.set_cons_zero, List.set_cons_succ]
      refine wpAnyH_ready (rs := [5]) (by kernel_rfl) (by simp) ?_
      refine AllReadyH.cons (o := ?od133) ?hod133 (fun K hK => ?kd133) ?md133
      case hod133 => (simp only [List.getElem?_toArray, List.getElem?_cons_succ, List.getElem?_cons_zero]; exact rfl)
      case kd133 =>
       go_simp
       refine (HWD.out 1).mono ?_
       rintro e V ⟨rfl, ht2, _, hb2, hk2⟩
       have HT2 := Lib.hid ht2
       have HB2 := Lib.hid hb2
       have HIX2 := Lib.hid (pIndex_any AN nN cN names T V (Rd.ofOwn (own_only HNU.out HBU.out (by decide) ht2)) (by omega))
       rw [HZ.out] at HIX2
       clear ht2 hb2
       (try dsimp only)
       refine hK.out _ _ ?_ (fun hHeld => ?_)
       ·
        exact HB2.out.cell 3
       clear hK K
       try simp only [Act.put, List.setIfInBounds_toArray, List.set_cons_zero, List.set_cons_succ]
       refine wpAnyH_ready (rs := [6]) (by kernel_rfl) (by simp) ?_
       refine AllReadyH.cons (o := ?od134) ?hod134 (fun K hK => ?kd134) ?md134
       case hod134 => (simp only [List.getElem?_toArray, List.getElem?_cons_succ, List.getElem?_cons_zero]; exact rfl)
       case kd134 =>
        go_simp
        refine HIX2.out.mono ?_
        rintro e V2 ⟨rfl, rfl⟩
        (try dsimp only)
        refine hK.out _ _ ?_ (fun hHeld => ?_)
        ·
         exact HB2.out.cell 3
        clear hK K
        try simp only [Act.put, List.setIfInBounds_toArray, List.set_cons_zero, List.set_cons_succ]
        refine wpAnyH_take (i := 7) (oi := ?p135) (v := ?v135) ?a135 (by kernel_rfl) ?b135 ?c135 ?q135 ?y135 hHeld ?z135
        case a135 => (simp only [List.getElem?_toArray, List.getElem?_cons_succ, List.getElem?_cons_zero]; exact rfl)
        case b135 => kernel_rfl
        case c135 => kernel_rfl
        case q135 => exact fun _ _ _ h => h
        case y135 =>
         refine Or.inl ⟨by rfl, ?_⟩
         intro V hSV
         go_simp
         (try with_reducible rfl)
        try simp only [Act.put, List.setIfInBounds_toArray, List.set_cons_zero, List.set_cons_succ]
        refine wpAnyH_take (i := 8) (oi := ?p136) (v := ?v136) ?a136 (by kernel_rfl) ?b136 ?c136 ?q136 ?y136 hHeld ?z136
        case a136 => (simp only [List.getElem?_toArray, List.getElem?_cons_succ, List.getElem?_cons_zero]; exact rfl)
        case b136 => kernel_rfl
        case c136 => kernel_rfl
        case q136 => exact fun _ _ _ h => h
        case y136 =>
         refine Or.inl ⟨by rfl, ?_⟩
         intro V hSV
         go_simp
         (try with_reducible rfl)
        try simp only [Act.put, List.setIfInBounds_toArray, List.set_cons_zero, List.set_cons_succ]
        refine wpAnyH_take (i := 9) (oi := ?p137) (v := ?v137) ?a137 (by kernel_rfl) ?b137 ?c137 ?q137 ?y137 hHeld ?z137
        case a137 => (simp only [List.getElem?_toArray, List.getElem?_cons_succ, List.getElem?_cons_zero]; exact rfl)
        case b137 => kernel_rfl
        case c137 => kernel_rfl
        case q137 => exact fun _ _ _ h => h
        case y137 =>
         refine Or.inl ⟨by rfl, ?_⟩
         intro V hSV
         go_simp
         (try with_reducible rfl)
        try simp only [Act.put, List.setIfInBounds_toArray, List.set_cons_zero, List.set_cons_succ]
        refine wpAnyH_done (by kernel_rfl) ?_ _
        clear hHeld
        repeat (first | go_skip | go_guarded | go_step)
        go_ret
        exact ⟨i, by first | rfl | simp, by omega, mkSt (x := goE _ (nameE sz)) hg HBU.out HB2.out HWU.out HNU.out HVU.out HNE.out hk2 hW hN hV HT2.out (by rw [show goE (Except.ok (ws.drop k, names, vars)) (nameE sz) = .ok (ws.drop (k + 1), names, vars) by unfold goE; dsimp only; rw [HNM.out]]; exact ⟨rfl, rfl⟩), (fun s u s2 h h2 => by cases h; rw [HNM.out] at h2; cases h2; rfl), HKU.out.trans (Kp.only HT2.out hg HBU.out.lt)⟩
       exact AllReadyH.nil
      exact AllReadyH.nil
     exact AllReadyH.nil
    exact AllReadyH.nil
   | none =>
    have hz9 : findZ names T9 = -1 := by unfold findZ; rw [hfo]
    rw [hz9] at HIX
    have HFO := Lib.hid (show findO names (txE (ws.drop k)) = none by rw [← HT9.out]; exact hfo)
    clear hz9 hfo
    by_cases hfull : 4096 ≤ nN
    ·
     have dfu : decide ((4096 : Int) ≤ (nN : Int)) = true := by simp; omega
     have HNM := Lib.hid (show nameE sz (ws.drop k, names, vars) = .error (6, placeE sz (ws.drop k)) by
      unfold nameE
      dsimp only
      rw [if_pos HKN.out, HFO.out]
      dsimp only
      rw [if_pos (by rw [HNL.out]; exact hfull)])
     clear hfull
     go_enter Tryz.func105, Tryz.ntmps105
     repeat (first | go_skip | go_guarded | go_step)
     refine wp_region_held_drew (S := fun V => ∃ q, V = w.drewN q) (by kernel_rfl) ?_ (fun hHeld => ?_)
     ·
      exact ⟨1, rfl⟩
     refine wpAnyH_take (i := 0) (oi := ?p138) (v := ?v138) ?a138 (by kernel_rfl) ?b138 ?c138 ?q138 ?y138 hHeld ?z138
     case a138 => (simp only [List.getElem?_toArray, List.getElem?_cons_succ, List.getElem?_cons_zero]; exact rfl)
     case b138 => kernel_rfl
     case c138 => kernel_rfl
     case q138 => exact fun _ _ _ h => h
     case y138 =>
      refine Or.inl ⟨by rfl, ?_⟩
      intro V hSV
      go_simp
      (try with_reducible rfl)
     try simp only [Act.put, List.setIfInBounds_toArray, List.set_cons_zero, List.set_cons_succ]
     refine wpAnyH_ready (rs := [1]) (by kernel_rfl) (by simp) ?_
     refine AllReadyH.cons (o := ?od139) ?hod139 (fun K hK => ?kd139) ?md139
     case hod139 => (simp only [List.getElem?_toArray, List.getElem?_cons_succ, List.getElem?_cons_zero]; exact rfl)
     case kd139 =>
      go_simp
      refine (HKD.out 1).mono ?_
      rintro e V ⟨rfl, q1, rfl⟩
      (try dsimp only)
      refine hK.out _ _ ?_ (fun hHeld => ?_)
      ·
       exact ⟨1 + q1, World.drewN_drewN _ _ _⟩
      clear hK K
      try simp only [Act.put, List.setIfInBounds_toArray, List.set_cons_zero, List.set_cons_succ]
      refine wpAnyH_take (i := 2) (oi := ?oid140) (v := .bool true) ?hod140 (by kernel_rfl) ?hfd140 ?hrd140 ?hQd140 ?hyd140 hHeld ?restd140
      case hod140 => (simp only [List.getElem?_toArray, List.getElem?_cons_succ, List.getElem?_cons_zero]; exact rfl)
      case hfd140 => kernel_rfl
      case hrd140 => kernel_rfl
      case hQd140 => exact fun _ _ _ h => h
      case hyd140 =>
       refine Or.inl ⟨by rfl, ?_⟩
       intro V hSV
       go_simp
       (try with_reducible rfl)
      try simp only [Act.put, List.setIfInBounds_toArray, List.set_cons_zero, List.set_cons_succ]
      refine wpAnyH_take (i := 3) (oi := ?oid141) (v := .bool true) ?hod141 (by kernel_rfl) ?hfd141 ?hrd141 ?hQd141 ?hyd141 hHeld ?restd141
      case hod141 => (simp only [List.getElem?_toArray, List.getElem?_cons_succ, List.getElem?_cons_zero]; exact rfl)
      case hfd141 => kernel_rfl
      case hrd141 => kernel_rfl
      case hQd141 => exact fun _ _ _ h => h
      case hyd141 =>
       refine Or.inl ⟨by rfl, ?_⟩
       intro V hSV
       go_simp
       (try with_reducible rfl)
      try simp only [Act.put, List.setIfInBounds_toArray, List.set_cons_zero, List.set_cons_succ]
      refine wpAnyH_take (i := 4) (oi := ?p142) (v := ?v142) ?a142 (by kernel_rfl) ?b142 ?c142 ?q142 ?y142 hHeld ?z142
      case a142 => (simp only [List.getElem?_toArray, List.getElem?_cons_succ, List.getElem?_cons_zero]; exact rfl)
      case b142 => kernel_rfl
      case c142 => kernel_rfl
      case q142 => exact fun _ _ _ h => h
      case y142 =>
       refine Or.inl ⟨by rfl, ?_⟩
       intro V hSV
       go_simp
       (try with_reducible rfl)
      try simp only [Act.put, List.setIfInBounds_toArray, List.set_cons_zero, List.set_cons_succ]
      refine wpAnyH_take (i := 5) (oi := ?p143) (v := ?v143) ?a143 (by kernel_rfl) ?b143 ?c143 ?q143 ?y143 hHeld ?z143
      case a143 => (simp only [List.getElem?_toArray, List.getElem?_cons_succ, List.getElem?_cons_zero]; exact rfl)
      case b143 => kernel_rfl
      case c143 => kernel_rfl
      case q143 => exact fun _ _ _ h => h
      case y143 =>
       refine Or.inl ⟨by rfl, ?_⟩
       intro V hSV
       go_simp
       (try with_reducible rfl)
      try simp only [Act.put, List.setIfInBounds_toArray, List.set_cons_zero, List.set_cons_succ]
      refine wpAnyH_take (i := 6) (oi := ?p144) (v := ?v144) ?a144 (by kernel_rfl) ?b144 ?c144 ?q144 ?y144 hHeld ?z144
      case a144 => (simp only [List.getElem?_toArray, List.getElem?_cons_succ, List.getElem?_cons_zero]; exact rfl)
      case b144 => kernel_rfl
      case c144 => kernel_rfl
      case q144 => exact fun _ _ _ h => h
      case y144 =>
       refine Or.inl ⟨by rfl, ?_⟩
       intro V hSV
       go_simp
       (try with_reducible rfl)
      try simp only [Act.put, List.setIfInBounds_toArray, List.set_cons_zero, List.set_cons_succ]
      refine wpAnyH_take (i := 7) (oi := ?p145) (v := ?v145) ?a145 (by kernel_rfl) ?b145 ?c145 ?q145 ?y145 hHeld ?z145
      case a145 => (simp only [List.getElem?_toArray, List.getElem?_cons_succ, List.getElem?_cons_zero]; exact rfl)
      case b145 => kernel_rfl
      case c145 => kernel_rfl
      case q145 => exact fun _ _ _ h => h
      case y145 =>
       refine Or.inl ⟨by rfl, ?_⟩
       intro V hSV
       obtain ⟨q, rfl⟩ := hSV
       go_simp
       (try with_reducible rfl)
      try simp only [Act.put, List.setIfInBounds_toArray, List.set_cons_zero, List.set_cons_succ]
      refine wpAnyH_take (i := 8) (oi := ?oid146) (v := .bool true) ?hod146 (by kernel_rfl) ?hfd146 ?hrd146 ?hQd146 ?hyd146 hHeld ?restd146
      case hod146 => (simp only [List.getElem?_toArray, List.getElem?_cons_succ, List.getElem?_cons_zero]; exact rfl)
      case hfd146 => kernel_rfl
      case hrd146 => kernel_rfl
      case hQd146 => exact fun _ _ _ h => h
      case hyd146 =>
       refine Or.inl ⟨by rfl, ?_⟩
       intro V hSV
       go_simp
       (try with_reducible rfl)
      try simp only [Act.put, List.setIfInBounds_toArray, List.set_cons_zero, List.set_cons_succ]
      refine wpAnyH_take (i := 9) (oi := ?oid147) (v := .bool true) ?hod147 (by kernel_rfl) ?hfd147 ?hrd147 ?hQd147 ?hyd147 hHeld ?restd147
      case hod147 => (simp only [List.getElem?_toArray, List.getElem?_cons_succ, List.getElem?_cons_zero]; exact rfl)
      case hfd147 => kernel_rfl
      case hrd147 => kernel_rfl
      case hQd147 => exact fun _ _ _ h => h
      case hyd147 =>
       refine Or.inl ⟨by rfl, ?_⟩
       intro V hSV
       go_simp
       (try with_reducible rfl)
      try simp only [Act.put, List.setIfInBounds_toArray, List.set_cons_zero, List.set_cons_succ]
      refine wpAnyH_take (i := 10) (oi := ?oid148) (v := .bool true) ?hod148 (by kernel_rfl) ?hfd148 ?hrd148 ?hQd148 ?hyd148 hHeld ?restd148
      case hod148 => (simp only [List.getElem?_toArray, List.getElem?_cons_succ, List.getElem?_cons_zero]; exact rfl)
      case hfd148 => kernel_rfl
      case hrd148 => kernel_rfl
      case hQd148 => exact fun _ _ _ h => h
      case hyd148 =>
       refine Or.inl ⟨by rfl, ?_⟩
       intro V hSV
       go_simp
       (try with_reducible rfl)
      try simp only [Act.put, List.setIfInBounds_toArray, List.set_cons_zero, List.set_cons_succ]
      refine wpAnyH_take (i := 11) (oi := ?p149) (v := ?v149) ?a149 (by kernel_rfl) ?b149 ?c149 ?q149 ?y149 hHeld ?z149
      case a149 => (simp only [List.getElem?_toArray, List.getElem?_cons_succ, List.getElem?_cons_zero]; exact rfl)
      case b149 => kernel_rfl
      case c149 => kernel_rfl
      case q149 => exact fun _ _ _ h => h
      case y149 =>
       refine Or.inl ⟨by rfl, ?_⟩
       intro V hSV
       go_simp
       (try with_reducible rfl)
      try simp only [Act.put, List.setIfInBounds_toArray, List.set_cons_zero, List.set_cons_succ]
      refine wpAnyH_take (i := 12) (oi := ?p150) (v := ?v150) ?a150 (by kernel_rfl) ?b150 ?c150 ?q150 ?y150 hHeld ?z150
      case a150 => (simp only [List.getElem?_toArray, List.getElem?_cons_succ, List.getElem?_cons_zero]; exact rfl)
      case b150 => kernel_rfl
      case c150 => kernel_rfl
      case q150 => exact fun _ _ _ h => h
      case y150 =>
       refine Or.inl ⟨by rfl, ?_⟩
       intro V hSV
       go_simp
       (try with_reducible rfl)
      try simp only [Act.put, List.setIfInBounds_toArray, List.set_cons_zero, List.set_cons_succ]
      refine wpAnyH_take (i := 13) (oi := ?p151) (v := ?v151) ?a151 (by kernel_rfl) ?b151 ?c151 ?q151 ?y151 hHeld ?z151
      case a151 => (simp only [List.getElem?_toArray, List.getElem?_cons_succ, List.getElem?_cons_zero]; exact rfl)
      case b151 => kernel_rfl
      case c151 => kernel_rfl
      case q151 => exact fun _ _ _ h => h
      case y151 =>
       refine Or.inl ⟨by rfl, ?_⟩
       intro V hSV
       go_simp
       (try with_reducible rfl)
      try simp only [Act.put, List.setIfInBounds_toArray, List.set_cons_zero, List.set_cons_succ]
      refine wpAnyH_take (i := 14) (oi := ?p152) (v := ?v152) ?a152 (by kernel_rfl) ?b152 ?c152 ?q152 ?y152 hHeld ?z152
      case a152 => (simp only [List.getElem?_toArray, List.getElem?_cons_succ, List.getElem?_cons_zero]; exact rfl)
      case b152 => kernel_rfl
      case c152 => kernel_rfl
      case q152 => exact fun _ _ _ h => h
      case y152 =>
       refine Or.inl ⟨by rfl, ?_⟩
       intro V hSV
       obtain ⟨q, rfl⟩ := hSV
       go_simp
       (try with_reducible rfl)
      try simp only [Act.put, List.setIfInBounds_toArray, List.set_cons_zero, List.set_cons_succ]
      refine wpAnyH_take (i := 15) (oi := ?p153) (v := ?v153) ?a153 (by kernel_rfl) ?b153 ?c153 ?q153 ?y153 hHeld ?z153
      case a153 => (simp only [List.getElem?_toArray, List.getElem?_cons_succ, List.getElem?_cons_zero]; exact rfl)
      case b153 => kernel_rfl
      case c153 => kernel_rfl
      case q153 => exact fun _ _ _ h => h
      case y153 =>
       refine Or.inl ⟨by rfl, ?_⟩
       intro V hSV
       go_simp
       (try with_reducible rfl)
      try simp only [Act.put, List.setIfInBounds_toArray, List.set_cons_zero, List.set_cons_succ]
      refine wpAnyH_take (i := 16) (oi := ?p154) (v := ?v154) ?a154 (by kernel_rfl) ?b154 ?c154 ?q154 ?y154 hHeld ?z154
      case a154 => (simp only [List.getElem?_toArray, List.getElem?_cons_succ, List.getElem?_cons_zero]; exact rfl)
      case b154 => kernel_rfl
      case c154 => kernel_rfl
      case q154 => exact fun _ _ _ h => h
      case y154 =>
       refine Or.inl ⟨by rfl, ?_⟩
       intro V hSV
       go_simp
       (try with_reducible rfl)
      try simp only [Act.put, List.setIfInBounds_toArray, List.set_cons_zero, List.set_cons_succ]
      refine wpAnyH_take (i := 17) (oi := ?p155) (v := ?v155) ?a155 (by kernel_rfl) ?b155 ?c155 ?q155 ?y155 hHeld ?z155
      case a155 => (simp only [List.getElem?_toArray, List.getElem?_cons_succ, List.getElem?_cons_zero]; exact rfl)
      case b155 => kernel_rfl
      case c155 => kernel_rfl
      case q155 => exact fun _ _ _ h => h
      case y155 =>
       refine Or.inl ⟨by rfl, ?_⟩
       intro V hSV
       go_simp
       (try with_reducible rfl)
      try simp only [Act.put, List.setIfInBounds_toArray, List.set_cons_zero, List.set_cons_succ]
      refine wpAnyH_take (i := 18) (oi := ?p156) (v := ?v156) ?a156 (by kernel_rfl) ?b156 ?c156 ?q156 ?y156 hHeld ?z156
      case a156 => (simp only [List.getElem?_toArray, List.getElem?_cons_succ, List.getElem?_cons_zero]; exact rfl)
      case b156 => kernel_rfl
      case c156 => kernel_rfl
      case q156 => exact fun _ _ _ h => h
      case y156 =>
       refine Or.inl ⟨by rfl, ?_⟩
       intro V hSV
       obtain ⟨q, rfl⟩ := hSV
       go_simp
       (try with_reducible rfl)
      try simp only [Act.put, List.setIfInBounds_toArray, List.set_cons_zero, List.set_cons_succ]
      refine wpAnyH_take (i := 19) (oi := ?p157) (v := ?v157) ?a157 (by kernel_rfl) ?b157 ?c157 ?q157 ?y157 hHeld ?z157
      case a157 => (simp only [List.getElem?_toArray, List.getElem?_cons_succ, List.getElem?_cons_zero]; exact rfl)
      case b157 => kernel_rfl
      case c157 => kernel_rfl
      case q157 => exact fun _ _ _ h => h
      case y157 =>
       refine Or.inl ⟨by rfl, ?_⟩
       intro V hSV
       go_simp
       (try with_reducible rfl)
      try simp only [Act.put, List.setIfInBounds_toArray, List.set_cons_zero, List.set_cons_succ]
      refine wpAnyH_take (i := 20) (oi := ?p158) (v := ?v158) ?a158 (by kernel_rfl) ?b158 ?c158 ?q158 ?y158 hHeld ?z158
      case a158 => (simp only [List.getElem?_toArray, List.getElem?_cons_succ, List.getElem?_cons_zero]; exact rfl)
      case b158 => kernel_rfl
      case c158 => kernel_rfl
      case q158 => exact fun _ _ _ h => h
      case y158 =>
       refine Or.inl ⟨by rfl, ?_⟩
       intro V hSV
       go_simp
       (try with_reducible rfl)
      try simp only [Act.put, List.setIfInBounds_toArray, List.set_cons_zero, List.set_cons_succ]
      refine wpAnyH_take (i := 21) (oi := ?p159) (v := ?v159) ?a159 (by kernel_rfl) ?b159 ?c159 ?q159 ?y159 hHeld ?z159
      case a159 => (simp only [List.getElem?_toArray, List.getElem?_cons_succ, List.getElem?_cons_zero]; exact rfl)
      case b159 => kernel_rfl
      case c159 => kernel_rfl
      case q159 => exact fun _ _ _ h => h
      case y159 =>
       refine Or.inl ⟨by rfl, ?_⟩
       intro V hSV
       go_simp
       (try with_reducible rfl)
      try simp only [Act.put, List.setIfInBounds_toArray, List.set_cons_zero, List.set_cons_succ]
      refine wpAnyH_take (i := 22) (oi := ?p160) (v := ?v160) ?a160 (by kernel_rfl) ?b160 ?c160 ?q160 ?y160 hHeld ?z160
      case a160 => (simp only [List.getElem?_toArray, List.getElem?_cons_succ, List.getElem?_cons_zero]; exact rfl)
      case b160 => kernel_rfl
      case c160 => kernel_rfl
      case q160 => exact fun _ _ _ h => h
      case y160 =>
       refine Or.inl ⟨by rfl, ?_⟩
       intro V hSV
       obtain ⟨q, rfl⟩ := hSV
       go_simp
       (try with_reducible rfl)
      try simp only [Act.put, List.setIfInBounds_toArray, List.set_cons_zero, List.set_cons_succ]
      refine wpAnyH_take (i := 23) (oi := ?p161) (v := ?v161) ?a161 (by kernel_rfl) ?b161 ?c161 ?q161 ?y161 hHeld ?z161
      case a161 => (simp only [List.getElem?_toArray, List.getElem?_cons_succ, List.getElem?_cons_zero]; exact rfl)
      case b161 => kernel_rfl
      case c161 => kernel_rfl
      case q161 => exact fun _ _ _ h => h
      case y161 =>
       refine Or.inl ⟨by rfl, ?_⟩
       intro V hSV
       go_simp
       (try with_reducible rfl)
      try simp only [Act.put, List.setIfInBounds_toArray, List.set_cons_zero, List.set_cons_succ]
      refine wpAnyH_take (i := 24) (oi := ?p162) (v := ?v162) ?a162 (by kernel_rfl) ?b162 ?c162 ?q162 ?y162 hHeld ?z162
      case a162 => (simp only [List.getElem?_toArray, List.getElem?_cons_succ, List.getElem?_cons_zero]; exact rfl)
      case b162 => kernel_rfl
      case c162 => kernel_rfl
      case q162 => exact fun _ _ _ h => h
      case y162 =>
       refine Or.inl ⟨by rfl, ?_⟩
       intro V hSV
       go_simp
       (try with_reducible rfl)
      try simp only [Act.put, List.setIfInBounds_toArray, List.set_cons_zero, List.set_cons_succ]
      refine wpAnyH_take (i := 25) (oi := ?p163) (v := ?v163) ?a163 (by kernel_rfl) ?b163 ?c163 ?q163 ?y163 hHeld ?z163
      case a163 => (simp only [List.getElem?_toArray, List.getElem?_cons_succ, List.getElem?_cons_zero]; exact rfl)
      case b163 => kernel_rfl
      case c163 => kernel_rfl
      case q163 => exact fun _ _ _ h => h
      case y163 =>
       refine Or.inl ⟨by rfl, ?_⟩
       intro V hSV
       obtain ⟨q, rfl⟩ := hSV
       go_simp
       (try with_reducible rfl)
      try simp only [Act.put, List.setIfInBounds_toArray, List.set_cons_zero, List.set_cons_succ]
      refine wpAnyH_ready (rs := [26]) (by kernel_rfl) (by simp) ?_
      refine AllReadyH.cons (o := ?od164) ?hod164 (fun K hK => ?kd164) ?md164
      case hod164 => (simp only [List.getElem?_toArray, List.getElem?_cons_succ, List.getElem?_cons_zero]; exact rfl)
      case kd164 =>
       go_simp
       refine (HIX.out (1 + q1)).mono ?_
       rintro e V ⟨rfl, rfl⟩
       (try dsimp only)
       refine hK.out _ _ ?_ (fun hHeld => ?_)
       ·
        exact ⟨1 + q1, rfl⟩
       clear hK K
       try simp only [Act.put, List.setIfInBounds_toArray, List.set_cons_zero, List.set_cons_succ]
       refine wpAnyH_take (i := 27) (oi := ?oid165) (v := .bool true) ?hod165 (by kernel_rfl) ?hfd165 ?hrd165 ?hQd165 ?hyd165 hHeld ?restd165
       case hod165 => (simp only [List.getElem?_toArray, List.getElem?_cons_succ, List.getElem?_cons_zero]; exact rfl)
       case hfd165 => kernel_rfl
       case hrd165 => kernel_rfl
       case hQd165 => exact fun _ _ _ h => h
       case hyd165 =>
        refine Or.inl ⟨by rfl, ?_⟩
        intro V hSV
        go_simp
        (try with_reducible rfl)
       try simp only [Act.put, List.setIfInBounds_toArray, List.set_cons_zero, List.set_cons_succ]
       refine wpAnyH_take (i := 28) (oi := ?oid166) (v := .bool true) ?hod166 (by kernel_rfl) ?hfd166 ?hrd166 ?hQd166 ?hyd166 hHeld ?restd166
       case hod166 => (simp only [List.getElem?_toArray, List.getElem?_cons_succ, List.getElem?_cons_zero]; exact rfl)
       case hfd166 => kernel_rfl
       case hrd166 => kernel_rfl
       case hQd166 => exact fun _ _ _ h => h
       case hyd166 =>
        refine Or.inl ⟨by rfl, ?_⟩
        intro V hSV
        go_simp
        (try with_reducible rfl)
       try simp only [Act.put, List.setIfInBounds_toArray, List.set_cons_zero, List.set_cons_succ]
       refine wpAnyH_done (by kernel_rfl) ?_ _
       clear hHeld
       try rw [World.drewN_drewN]
       obtain ⟨q, hq⟩ : ∃ q, q = 1 + q1 := ⟨_, rfl⟩
       rw [← hq]
       clear hq
       have HBU := Lib.hid (show Bk (w.drewN q) g PT (pzC (some ⟨b, o, none⟩) nW cW k sz AN nN cN AV nV cV 0 a0) from HB.out)
       have HWU := Lib.hid (show OwV 127 (w.drewN q) base (some ⟨b, o, none⟩) cW nW ws from HW.out)
       have HNU := Lib.hid (show OwS (w.drewN q) base AN cN nN names from HN.out)
       have HVU := Lib.hid (show OwS (w.drewN q) base AV cV nV vars from HV.out)
       have HKU := Lib.hid ((Kp.refl base g w).drews q)
       clear HB HW HN HV HKD HRN c0 c1 c3 c5 f3
       try clear HIX
       try clear r1
       generalize w.drewN q = U at HBU HWU HNU HVU HKU ⊢
       have c0 : U.cell? ⟨g, 0, none⟩ = some (.slice (some ⟨b, o, none⟩) nW cW) := HBU.out.cell 0
       have c1 : U.cell? ⟨g, 1, none⟩ = some (.int .i64 (k : Int)) := HBU.out.cell 1
       have c3 : U.cell? ⟨g, 3, none⟩ = some (.slice AN nN cN) := HBU.out.cell 3
       have c5 : U.cell? ⟨g, 5, none⟩ = some (.int .i64 ((0 : Nat) : Int)) := HBU.out.cell 5
       repeat (first | go_skip | go_guarded | go_step)
       refine (pWrong_any 6 base ws _ HBU.out HWU.out hk (by omega)).mono ?_
       rintro e V ⟨rfl, hb2, ht2⟩
       rw [if_pos rfl, if_pos rfl] at hb2
       have HB2 := Lib.hid hb2
       have HT2 := Lib.hid ht2
       clear hb2 ht2
       dsimp only
       repeat (first | go_skip | go_guarded | go_step)
       go_ret
       exact ⟨0, by first | rfl | simp, by omega, mkSt (x := goE _ (nameE sz)) hg HBU.out HB2.out HWU.out HNU.out HVU.out HNE.out hk hW hN hV HT2.out (by rw [show goE (Except.ok (ws.drop k, names, vars)) (nameE sz) = .error (6, placeE sz (ws.drop k)) by unfold goE; dsimp only; rw [HNM.out]]; exact ⟨rfl, rfl, by omega⟩), (fun s u s2 h h2 => by cases h; rw [HNM.out] at h2; cases h2), HKU.out.trans (Kp.only HT2.out hg HBU.out.lt)⟩
      exact AllReadyH.nil
     exact AllReadyH.nil
    ·
     have dfu : decide ((4096 : Int) ≤ (nN : Int)) = false := by simp; omega
     have HNM := Lib.hid (show nameE sz (ws.drop k, names, vars) = .ok (nN, (ws.drop (k + 1), names ++ [txE (ws.drop k)], vars)) by
      unfold nameE
      dsimp only
      rw [if_pos HKN.out, HFO.out]
      dsimp only
      rw [if_neg (by rw [HNL.out]; exact hfull), List.tail_drop, HNL.out])
     have hfull : nN < 4096 := by omega
     go_enter Tryz.func105, Tryz.ntmps105
     repeat (first | go_skip | go_guarded | go_step)
     refine wp_region_held_drew (S := fun V => ∃ q, V = w.drewN q) (by kernel_rfl) ?_ (fun hHeld => ?_)
     ·
      exact ⟨1, rfl⟩
     refine wpAnyH_take (i := 0) (oi := ?p167) (v := ?v167) ?a167 (by kernel_rfl) ?b167 ?c167 ?q167 ?y167 hHeld ?z167
     case a167 => (simp only [List.getElem?_toArray, List.getElem?_cons_succ, List.getElem?_cons_zero]; exact rfl)
     case b167 => kernel_rfl
     case c167 => kernel_rfl
     case q167 => exact fun _ _ _ h => h
     case y167 =>
      refine Or.inl ⟨by rfl, ?_⟩
      intro V hSV
      go_simp
      (try with_reducible rfl)
     try simp only [Act.put, List.setIfInBounds_toArray, List.set_cons_zero, List.set_cons_succ]
     refine wpAnyH_ready (rs := [1]) (by kernel_rfl) (by simp) ?_
     refine AllReadyH.cons (o := ?od168) ?hod168 (fun K hK => ?kd168) ?md168
     case hod168 => (simp only [List.getElem?_toArray, List.getElem?_cons_succ, List.getElem?_cons_zero]; exact rfl)
     case kd168 =>
      go_simp
      refine (HKD.out 1).mono ?_
      rintro e V ⟨rfl, q1, rfl⟩
      (try dsimp only)
      refine hK.out _ _ ?_ (fun hHeld => ?_)
      ·
       exact ⟨1 + q1, World.drewN_drewN _ _ _⟩
      clear hK K
      try simp only [Act.put, List.setIfInBounds_toArray, List.set_cons_zero, List.set_cons_succ]
      refine wpAnyH_take (i := 2) (oi := ?oid169) (v := .bool true) ?hod169 (by kernel_rfl) ?hfd169 ?hrd169 ?hQd169 ?hyd169 hHeld ?restd169
      case hod169 => (simp only [List.getElem?_toArray, List.getElem?_cons_succ, List.getElem?_cons_zero]; exact rfl)
      case hfd169 => kernel_rfl
      case hrd169 => kernel_rfl
      case hQd169 => exact fun _ _ _ h => h
      case hyd169 =>
       refine Or.inl ⟨by rfl, ?_⟩
       intro V hSV
       go_simp
       (try with_reducible rfl)
      try simp only [Act.put, List.setIfInBounds_toArray, List.set_cons_zero, List.set_cons_succ]
      refine wpAnyH_take (i := 3) (oi := ?oid170) (v := .bool true) ?hod170 (by kernel_rfl) ?hfd170 ?hrd170 ?hQd170 ?hyd170 hHeld ?restd170
      case hod170 => (simp only [List.getElem?_toArray, List.getElem?_cons_succ, List.getElem?_cons_zero]; exact rfl)
      case hfd170 => kernel_rfl
      case hrd170 => kernel_rfl
      case hQd170 => exact fun _ _ _ h => h
      case hyd170 =>
       refine Or.inl ⟨by rfl, ?_⟩
       intro V hSV
       go_simp
       (try with_reducible rfl)
      try simp only [Act.put, List.setIfInBounds_toArray, List.set_cons_zero, List.set_cons_succ]
      refine wpAnyH_take (i := 4) (oi := ?p171) (v := ?v171) ?a171 (by kernel_rfl) ?b171 ?c171 ?q171 ?y171 hHeld ?z171
      case a171 => (simp only [List.getElem?_toArray, List.getElem?_cons_succ, List.getElem?_cons_zero]; exact rfl)
      case b171 => kernel_rfl
      case c171 => kernel_rfl
      case q171 => exact fun _ _ _ h => h
      case y171 =>
       refine Or.inl ⟨by rfl, ?_⟩
       intro V hSV
       go_simp
       (try with_reducible rfl)
      try simp only [Act.put, List.setIfInBounds_toArray, List.set_cons_zero, List.set_cons_succ]
      refine wpAnyH_take (i := 5) (oi := ?p172) (v := ?v172) ?a172 (by kernel_rfl) ?b172 ?c172 ?q172 ?y172 hHeld ?z172
      case a172 => (simp only [List.getElem?_toArray, List.getElem?_cons_succ, List.getElem?_cons_zero]; exact rfl)
      case b172 => kernel_rfl
      case c172 => kernel_rfl
      case q172 => exact fun _ _ _ h => h
      case y172 =>
       refine Or.inl ⟨by rfl, ?_⟩
       intro V hSV
       go_simp
       (try with_reducible rfl)
      try simp only [Act.put, List.setIfInBounds_toArray, List.set_cons_zero, List.set_cons_succ]
      refine wpAnyH_take (i := 6) (oi := ?p173) (v := ?v173) ?a173 (by kernel_rfl) ?b173 ?c173 ?q173 ?y173 hHeld ?z173
      case a173 => (simp only [List.getElem?_toArray, List.getElem?_cons_succ, List.getElem?_cons_zero]; exact rfl)
      case b173 => kernel_rfl
      case c173 => kernel_rfl
      case q173 => exact fun _ _ _ h => h
      case y173 =>
       refine Or.inl ⟨by rfl, ?_⟩
       intro V hSV
       go_simp
       (try with_reducible rfl)
      try simp only [Act.put, List.setIfInBounds_toArray, List.set_cons_zero, List.set_cons_succ]
      refine wpAnyH_take (i := 7) (oi := ?p174) (v := ?v174) ?a174 (by kernel_rfl) ?b174 ?c174 ?q174 ?y174 hHeld ?z174
      case a174 => (simp only [List.getElem?_toArray, List.getElem?_cons_succ, List.getElem?_cons_zero]; exact rfl)
      case b174 => kernel_rfl
      case c174 => kernel_rfl
      case q174 => exact fun _ _ _ h => h
      case y174 =>
       refine Or.inl ⟨by rfl, ?_⟩
       intro V hSV
       obtain ⟨q, rfl⟩ := hSV
       go_simp
       (try with_reducible rfl)
      try simp only [Act.put, List.setIfInBounds_toArray, List.set_cons_zero, List.set_cons_succ]
      refine wpAnyH_take (i := 8) (oi := ?oid175) (v := .bool true) ?hod175 (by kernel_rfl) ?hfd175 ?hrd175 ?hQd175 ?hyd175 hHeld ?restd175
      case hod175 => (simp only [List.getElem?_toArray, List.getElem?_cons_succ, List.getElem?_cons_zero]; exact rfl)
      case hfd175 => kernel_rfl
      case hrd175 => kernel_rfl
      case hQd175 => exact fun _ _ _ h => h
      case hyd175 =>
       refine Or.inl ⟨by rfl, ?_⟩
       intro V hSV
       go_simp
       (try with_reducible rfl)
      try simp only [Act.put, List.setIfInBounds_toArray, List.set_cons_zero, List.set_cons_succ]
      refine wpAnyH_take (i := 9) (oi := ?oid176) (v := .bool true) ?hod176 (by kernel_rfl) ?hfd176 ?hrd176 ?hQd176 ?hyd176 hHeld ?restd176
      case hod176 => (simp only [List.getElem?_toArray, List.getElem?_cons_succ, List.getElem?_cons_zero]; exact rfl)
      case hfd176 => kernel_rfl
      case hrd176 => kernel_rfl
      case hQd176 => exact fun _ _ _ h => h
      case hyd176 =>
       refine Or.inl ⟨by rfl, ?_⟩
       intro V hSV
       go_simp
       (try with_reducible rfl)
      try simp only [Act.put, List.setIfInBounds_toArray, List.set_cons_zero, List.set_cons_succ]
      refine wpAnyH_take (i := 10) (oi := ?oid177) (v := .bool true) ?hod177 (by kernel_rfl) ?hfd177 ?hrd177 ?hQd177 ?hyd177 hHeld ?restd177
      case hod177 => (simp only [List.getElem?_toArray, List.getElem?_cons_succ, List.getElem?_cons_zero]; exact rfl)
      case hfd177 => kernel_rfl
      case hrd177 => kernel_rfl
      case hQd177 => exact fun _ _ _ h => h
      case hyd177 =>
       refine Or.inl ⟨by rfl, ?_⟩
       intro V hSV
       go_simp
       (try with_reducible rfl)
      try simp only [Act.put, List.setIfInBounds_toArray, List.set_cons_zero, List.set_cons_succ]
      refine wpAnyH_take (i := 11) (oi := ?p178) (v := ?v178) ?a178 (by kernel_rfl) ?b178 ?c178 ?q178 ?y178 hHeld ?z178
      case a178 => (simp only [List.getElem?_toArray, List.getElem?_cons_succ, List.getElem?_cons_zero]; exact rfl)
      case b178 => kernel_rfl
      case c178 => kernel_rfl
      case q178 => exact fun _ _ _ h => h
      case y178 =>
       refine Or.inl ⟨by rfl, ?_⟩
       intro V hSV
       go_simp
       (try with_reducible rfl)
      try simp only [Act.put, List.setIfInBounds_toArray, List.set_cons_zero, List.set_cons_succ]
      refine wpAnyH_take (i := 12) (oi := ?p179) (v := ?v179) ?a179 (by kernel_rfl) ?b179 ?c179 ?q179 ?y179 hHeld ?z179
      case a179 => (simp only [List.getElem?_toArray, List.getElem?_cons_succ, List.getElem?_cons_zero]; exact rfl)
      case b179 => kernel_rfl
      case c179 => kernel_rfl
      case q179 => exact fun _ _ _ h => h
      case y179 =>
       refine Or.inl ⟨by rfl, ?_⟩
       intro V hSV
       go_simp
       (try with_reducible rfl)
      try simp only [Act.put, List.setIfInBounds_toArray, List.set_cons_zero, List.set_cons_succ]
      refine wpAnyH_take (i := 13) (oi := ?p180) (v := ?v180) ?a180 (by kernel_rfl) ?b180 ?c180 ?q180 ?y180 hHeld ?z180
      case a180 => (simp only [List.getElem?_toArray, List.getElem?_cons_succ, List.getElem?_cons_zero]; exact rfl)
      case b180 => kernel_rfl
      case c180 => kernel_rfl
      case q180 => exact fun _ _ _ h => h
      case y180 =>
       refine Or.inl ⟨by rfl, ?_⟩
       intro V hSV
       go_simp
       (try with_reducible rfl)
      try simp only [Act.put, List.setIfInBounds_toArray, List.set_cons_zero, List.set_cons_succ]
      refine wpAnyH_take (i := 14) (oi := ?p181) (v := ?v181) ?a181 (by kernel_rfl) ?b181 ?c181 ?q181 ?y181 hHeld ?z181
      case a181 => (simp only [List.getElem?_toArray, List.getElem?_cons_succ, List.getElem?_cons_zero]; exact rfl)
      case b181 => kernel_rfl
      case c181 => kernel_rfl
      case q181 => exact fun _ _ _ h => h
      case y181 =>
       refine Or.inl ⟨by rfl, ?_⟩
       intro V hSV
       obtain ⟨q, rfl⟩ := hSV
       go_simp
       (try with_reducible rfl)
      try simp only [Act.put, List.setIfInBounds_toArray, List.set_cons_zero, List.set_cons_succ]
      refine wpAnyH_take (i := 15) (oi := ?p182) (v := ?v182) ?a182 (by kernel_rfl) ?b182 ?c182 ?q182 ?y182 hHeld ?z182
      case a182 => (simp only [List.getElem?_toArray, List.getElem?_cons_succ, List.getElem?_cons_zero]; exact rfl)
      case b182 => kernel_rfl
      case c182 => kernel_rfl
      case q182 => exact fun _ _ _ h => h
      case y182 =>
       refine Or.inl ⟨by rfl, ?_⟩
       intro V hSV
       go_simp
       (try with_reducible rfl)
      try simp only [Act.put, List.setIfInBounds_toArray, List.set_cons_zero, List.set_cons_succ]
      refine wpAnyH_take (i := 16) (oi := ?p183) (v := ?v183) ?a183 (by kernel_rfl) ?b183 ?c183 ?q183 ?y183 hHeld ?z183
      case a183 => (simp only [List.getElem?_toArray, List.getElem?_cons_succ, List.getElem?_cons_zero]; exact rfl)
      case b183 => kernel_rfl
      case c183 => kernel_rfl
      case q183 => exact fun _ _ _ h => h
      case y183 =>
       refine Or.inl ⟨by rfl, ?_⟩
       intro V hSV
       go_simp
       (try with_reducible rfl)
      try simp only [Act.put, List.setIfInBounds_toArray, List.set_cons_zero, List.set_cons_succ]
      refine wpAnyH_take (i := 17) (oi := ?p184) (v := ?v184) ?a184 (by kernel_rfl) ?b184 ?c184 ?q184 ?y184 hHeld ?z184
      case a184 => (simp only [List.getElem?_toArray, List.getElem?_cons_succ, List.getElem?_cons_zero]; exact rfl)
      case b184 => kernel_rfl
      case c184 => kernel_rfl
      case q184 => exact fun _ _ _ h => h
      case y184 =>
       refine Or.inl ⟨by rfl, ?_⟩
       intro V hSV
       go_simp
       (try with_reducible rfl)
      try simp only [Act.put, List.setIfInBounds_toArray, List.set_cons_zero, List.set_cons_succ]
      refine wpAnyH_take (i := 18) (oi := ?p185) (v := ?v185) ?a185 (by kernel_rfl) ?b185 ?c185 ?q185 ?y185 hHeld ?z185
      case a185 => (simp only [List.getElem?_toArray, List.getElem?_cons_succ, List.getElem?_cons_zero]; exact rfl)
      case b185 => kernel_rfl
      case c185 => kernel_rfl
      case q185 => exact fun _ _ _ h => h
      case y185 =>
       refine Or.inl ⟨by rfl, ?_⟩
       intro V hSV
       obtain ⟨q, rfl⟩ := hSV
       go_simp
       (try with_reducible rfl)
      try simp only [Act.put, List.setIfInBounds_toArray, List.set_cons_zero, List.set_cons_succ]
      refine wpAnyH_take (i := 19) (oi := ?p186) (v := ?v186) ?a186 (by kernel_rfl) ?b186 ?c186 ?q186 ?y186 hHeld ?z186
      case a186 => (simp only [List.getElem?_toArray, List.getElem?_cons_succ, List.getElem?_cons_zero]; exact rfl)
      case b186 => kernel_rfl
      case c186 => kernel_rfl
      case q186 => exact fun _ _ _ h => h
      case y186 =>
       refine Or.inl ⟨by rfl, ?_⟩
       intro V hSV
       go_simp
       (try with_reducible rfl)
      try simp only [Act.put, List.setIfInBounds_toArray, List.set_cons_zero, List.set_cons_succ]
      refine wpAnyH_take (i := 20) (oi := ?p187) (v := ?v187) ?a187 (by kernel_rfl) ?b187 ?c187 ?q187 ?y187 hHeld ?z187
      case a187 => (simp only [List.getElem?_toArray, List.getElem?_cons_succ, List.getElem?_cons_zero]; exact rfl)
      case b187 => kernel_rfl
      case c187 => kernel_rfl
      case q187 => exact fun _ _ _ h => h
      case y187 =>
       refine Or.inl ⟨by rfl, ?_⟩
       intro V hSV
       go_simp
       (try with_reducible rfl)
      try simp only [Act.put, List.setIfInBounds_toArray, List.set_cons_zero, List.set_cons_succ]
      refine wpAnyH_take (i := 21) (oi := ?p188) (v := ?v188) ?a188 (by kernel_rfl) ?b188 ?c188 ?q188 ?y188 hHeld ?z188
      case a188 => (simp only [List.getElem?_toArray, List.getElem?_cons_succ, List.getElem?_cons_zero]; exact rfl)
      case b188 => kernel_rfl
      case c188 => kernel_rfl
      case q188 => exact fun _ _ _ h => h
      case y188 =>
       refine Or.inl ⟨by rfl, ?_⟩
       intro V hSV
       go_simp
       (try with_reducible rfl)
      try simp only [Act.put, List.setIfInBounds_toArray, List.set_cons_zero, List.set_cons_succ]
      refine wpAnyH_take (i := 22) (oi := ?p189) (v := ?v189) ?a189 (by kernel_rfl) ?b189 ?c189 ?q189 ?y189 hHeld ?z189
      case a189 => (simp only [List.getElem?_toArray, List.getElem?_cons_succ, List.getElem?_cons_zero]; exact rfl)
      case b189 => kernel_rfl
      case c189 => kernel_rfl
      case q189 => exact fun _ _ _ h => h
      case y189 =>
       refine Or.inl ⟨by rfl, ?_⟩
       intro V hSV
       obtain ⟨q, rfl⟩ := hSV
       go_simp
       (try with_reducible rfl)
      try simp only [Act.put, List.setIfInBounds_toArray, List.set_cons_zero, List.set_cons_succ]
      refine wpAnyH_take (i := 23) (oi := ?p190) (v := ?v190) ?a190 (by kernel_rfl) ?b190 ?c190 ?q190 ?y190 hHeld ?z190
      case a190 => (simp only [List.getElem?_toArray, List.getElem?_cons_succ, List.getElem?_cons_zero]; exact rfl)
      case b190 => kernel_rfl
      case c190 => kernel_rfl
      case q190 => exact fun _ _ _ h => h
      case y190 =>
       refine Or.inl ⟨by rfl, ?_⟩
       intro V hSV
       go_simp
       (try with_reducible rfl)
      try simp only [Act.put, List.setIfInBounds_toArray, List.set_cons_zero, List.set_cons_succ]
      refine wpAnyH_take (i := 24) (oi := ?p191) (v := ?v191) ?a191 (by kernel_rfl) ?b191 ?c191 ?q191 ?y191 hHeld ?z191
      case a191 => (simp only [List.getElem?_toArray, List.getElem?_cons_succ, List.getElem?_cons_zero]; exact rfl)
      case b191 => kernel_rfl
      case c191 => kernel_rfl
      case q191 => exact fun _ _ _ h => h
      case y191 =>
       refine Or.inl ⟨by rfl, ?_⟩
       intro V hSV
       go_simp
       (try with_reducible rfl)
      try simp only [Act.put, List.setIfInBounds_toArray, List.set_cons_zero, List.set_cons_succ]
      refine wpAnyH_take (i := 25) (oi := ?p192) (v := ?v192) ?a192 (by kernel_rfl) ?b192 ?c192 ?q192 ?y192 hHeld ?z192
      case a192 => (simp only [List.getElem?_toArray, List.getElem?_cons_succ, List.getElem?_cons_zero]; exact rfl)
      case b192 => kernel_rfl
      case c192 => kernel_rfl
      case q192 => exact fun _ _ _ h => h
      case y192 =>
       refine Or.inl ⟨by rfl, ?_⟩
       intro V hSV
       obtain ⟨q, rfl⟩ := hSV
       go_simp
       (try with_reducible rfl)
      try simp only [Act.put, List.setIfInBounds_toArray, List.set_cons_zero, List.set_cons_succ]
      refine wpAnyH_ready (rs := [26]) (by kernel_rfl) (by simp) ?_
      refine AllReadyH.cons (o := ?od193) ?hod193 (fun K hK => ?kd193) ?md193
      case hod193 => (simp only [List.getElem?_toArray, List.getElem?_cons_succ, List.getElem?_cons_zero]; exact rfl)
      case kd193 =>
       go_simp
       refine (HIX.out (1 + q1)).mono ?_
       rintro e V ⟨rfl, rfl⟩
       (try dsimp only)
       refine hK.out _ _ ?_ (fun hHeld => ?_)
       ·
        exact ⟨1 + q1, rfl⟩
       clear hK K
       try simp only [Act.put, List.setIfInBounds_toArray, List.set_cons_zero, List.set_cons_succ]
       refine wpAnyH_take (i := 27) (oi := ?oid194) (v := .bool true) ?hod194 (by kernel_rfl) ?hfd194 ?hrd194 ?hQd194 ?hyd194 hHeld ?restd194
       case hod194 => (simp only [List.getElem?_toArray, List.getElem?_cons_succ, List.getElem?_cons_zero]; exact rfl)
       case hfd194 => kernel_rfl
       case hrd194 => kernel_rfl
       case hQd194 => exact fun _ _ _ h => h
       case hyd194 =>
        refine Or.inl ⟨by rfl, ?_⟩
        intro V hSV
        go_simp
        (try with_reducible rfl)
       try simp only [Act.put, List.setIfInBounds_toArray, List.set_cons_zero, List.set_cons_succ]
       refine wpAnyH_take (i := 28) (oi := ?oid195) (v := .bool true) ?hod195 (by kernel_rfl) ?hfd195 ?hrd195 ?hQd195 ?hyd195 hHeld ?restd195
       case hod195 => (simp only [List.getElem?_toArray, List.getElem?_cons_succ, List.getElem?_cons_zero]; exact rfl)
       case hfd195 => kernel_rfl
       case hrd195 => kernel_rfl
       case hQd195 => exact fun _ _ _ h => h
       case hyd195 =>
        refine Or.inl ⟨by rfl, ?_⟩
        intro V hSV
        go_simp
        (try with_reducible rfl)
       try simp only [Act.put, List.setIfInBounds_toArray, List.set_cons_zero, List.set_cons_succ]
       refine wpAnyH_done (by kernel_rfl) ?_ _
       clear hHeld
       try rw [World.drewN_drewN]
       obtain ⟨q, hq⟩ : ∃ q, q = 1 + q1 := ⟨_, rfl⟩
       rw [← hq]
       clear hq
       have HBU := Lib.hid (show Bk (w.drewN q) g PT (pzC (some ⟨b, o, none⟩) nW cW k sz AN nN cN AV nV cV 0 a0) from HB.out)
       have HWU := Lib.hid (show OwV 127 (w.drewN q) base (some ⟨b, o, none⟩) cW nW ws from HW.out)
       have HNU := Lib.hid (show OwS (w.drewN q) base AN cN nN names from HN.out)
       have HVU := Lib.hid (show OwS (w.drewN q) base AV cV nV vars from HV.out)
       have HKU := Lib.hid ((Kp.refl base g w).drews q)
       clear HB HW HN HV HKD HRN c0 c1 c3 c5 f3
       try clear HIX
       try clear r1
       generalize w.drewN q = U at HBU HWU HNU HVU HKU ⊢
       have c0 : U.cell? ⟨g, 0, none⟩ = some (.slice (some ⟨b, o, none⟩) nW cW) := HBU.out.cell 0
       have c1 : U.cell? ⟨g, 1, none⟩ = some (.int .i64 (k : Int)) := HBU.out.cell 1
       have c3 : U.cell? ⟨g, 3, none⟩ = some (.slice AN nN cN) := HBU.out.cell 3
       have c5 : U.cell? ⟨g, 5, none⟩ = some (.int .i64 ((0 : Nat) : Int)) := HBU.out.cell 5
       repeat (first | go_skip | go_guarded | go_step)
       have r1 : ∀ q, (U.drewN q).cell? ⟨b, o + k * 3 + 1, none⟩ = some (sv T9) := fun q => by
        obtain ⟨b', o', ⟨k8, t8, a8⟩, hA', _, hx8, _, hc1', _⟩ := rdV_at (OwV.rd HWU.out) hlt
        simp only [Option.some.injEq, Addr.mk.injEq] at hA'
        obtain ⟨rfl, rfl, _⟩ := hA'
        rw [HT9.out, drop_at hx8]
        exact hc1'
       clear r1
       have HB1 := Lib.hid (show Bk U.drew g PT (pzC (some ⟨b, o, none⟩) nW cW k sz AN nN cN AV nV cV 0 a0) from HBU.out)
       have HW1 := Lib.hid (show OwV 127 U.drew base (some ⟨b, o, none⟩) cW nW ws from HWU.out)
       have HN1 := Lib.hid (show OwS U.drew base AN cN nN names from HNU.out)
       have HV1 := Lib.hid (show OwS U.drew base AV cV nV vars from HVU.out)
       have HK1 := Lib.hid (show Kp base g w U.drew from HKU.out.drews 1)
       clear HBU HWU HNU HVU HKU c0 c1 c5
       have hbW : base ≤ U.drew.heap.size := by have := HB1.out.lt; omega
       have hlit := run_litS T9 U.drew
       have HX := Lib.hid (show ∀ X1, X1 = U.drew.alloc (.cells #[sv T9] 9) → Bk X1 g PT (pzC (some ⟨b, o, none⟩) nW cW k sz AN nN cN AV nV cV 0 a0) ∧ OwV 127 X1 base (some ⟨b, o, none⟩) cW nW ws ∧ OwS X1 base AN cN nN names ∧ OwS X1 base AV cV nV vars ∧ Kp base g w X1 ∧ Rd X1 X1.heap.size 1 (some ⟨U.drew.heap.size, 0, none⟩) 1 [sv T9] ∧ base ≤ X1.heap.size from fun X1 hX1 => by
        have hbX : Below U.drew.heap.size U.drew X1 := by rw [hX1]; exact (Below.refl _ _).alloc (Nat.le_refl _) _
        refine ⟨HB1.out.later hbX, ownBelow HW1.out hbX (Nat.le_refl _), ownBelow HN1.out hbX (Nat.le_refl _), ownBelow HV1.out hbX (Nat.le_refl _), by rw [hX1]; exact HK1.out.alloc hbW _, by rw [hX1]; exact (Bk.new U.drew _ [sv T9]).rd 1 (by simp), by have := hbX.size; omega⟩)
       obtain ⟨HS0⟩ : Nonempty (Hid (∃ (An : Option Addr) (nn cn : Nat), Bk U.drew g PT (pzC (some ⟨b, o, none⟩) nW cW k sz An nn cn AV nV cV 0 a0) ∧ OwV 127 U.drew base (some ⟨b, o, none⟩) cW nW ws)) := ⟨Lib.hid ⟨AN, nN, cN, HB1.out, HW1.out⟩⟩
       refine wp_region_held_drew (S := fun V => ∃ (An : Option Addr) (nn cn : Nat), Bk V g PT (pzC (some ⟨b, o, none⟩) nW cW k sz An nn cn AV nV cV 0 a0) ∧ OwV 127 V base (some ⟨b, o, none⟩) cW nW ws) (by kernel_rfl) ?_ (fun hHeld => ?_)
       ·
        exact HS0.out
       refine wpAnyH_take (i := 0) (oi := ?p196) (v := ?v196) ?a196 (by kernel_rfl) ?b196 ?c196 ?q196 ?y196 hHeld ?z196
       case a196 => (simp only [List.getElem?_toArray, List.getElem?_cons_succ, List.getElem?_cons_zero]; exact rfl)
       case b196 => kernel_rfl
       case c196 => kernel_rfl
       case q196 => exact fun _ _ _ h => h
       case y196 =>
        refine Or.inl ⟨by rfl, ?_⟩
        intro V hSV
        go_simp
        (try with_reducible rfl)
       try simp only [Act.put, List.setIfInBounds_toArray, List.set_cons_zero, List.set_cons_succ]
       refine wpAnyH_take (i := 1) (oi := ?p197) (v := ?v197) ?a197 (by kernel_rfl) ?b197 ?c197 ?q197 ?y197 hHeld ?z197
       case a197 => (simp only [List.getElem?_toArray, List.getElem?_cons_succ, List.getElem?_cons_zero]; exact rfl)
       case b197 => kernel_rfl
       case c197 => kernel_rfl
       case q197 => exact fun _ _ _ h => h
       case y197 =>
        refine Or.inl ⟨by rfl, ?_⟩
        intro V hSV
        go_simp
        (try with_reducible rfl)
       try simp only [Act.put, List.setIfInBounds_toArray, List.set_cons_zero, List.set_cons_succ]
       refine wpAnyH_take (i := 2) (oi := ?p198) (v := ?v198) ?a198 (by kernel_rfl) ?b198 ?c198 ?q198 ?y198 hHeld ?z198
       case a198 => (simp only [List.getElem?_toArray, List.getElem?_cons_succ, List.getElem?_cons_zero]; exact rfl)
       case b198 => kernel_rfl
       case c198 => kernel_rfl
       case q198 => exact fun _ _ _ h => h
       case y198 =>
        refine Or.inl ⟨by rfl, ?_⟩
        intro V hSV
        go_simp
        (try with_reducible rfl)
       try simp only [Act.put, List.setIfInBounds_toArray, List.set_cons_zero, List.set_cons_succ]
       refine wpAnyH_take (i := 3) (oi := ?p199) (v := ?v199) ?a199 (by kernel_rfl) ?b199 ?c199 ?q199 ?y199 hHeld ?z199
       case a199 => (simp only [List.getElem?_toArray, List.getElem?_cons_succ, List.getElem?_cons_zero]; exact rfl)
       case b199 => kernel_rfl
       case c199 => kernel_rfl
       case q199 => exact fun _ _ _ h => h
       case y199 =>
        refine Or.inl ⟨by rfl, ?_⟩
        intro V hSV
        go_simp
        (try with_reducible rfl)
       try simp only [Act.put, List.setIfInBounds_toArray, List.set_cons_zero, List.set_cons_succ]
       refine wpAnyH_take (i := 5) (oi := ?p200) (v := ?v200) ?a200 (by kernel_rfl) ?b200 ?c200 ?q200 ?y200 hHeld ?z200
       case a200 => (simp only [List.getElem?_toArray, List.getElem?_cons_succ, List.getElem?_cons_zero]; exact rfl)
       case b200 => kernel_rfl
       case c200 => kernel_rfl
       case q200 => exact fun _ _ _ h => h
       case y200 =>
        refine Or.inl ⟨by rfl, ?_⟩
        intro V hSV
        go_simp
        (try with_reducible rfl)
       try simp only [Act.put, List.setIfInBounds_toArray, List.set_cons_zero, List.set_cons_succ]
       refine wpAnyH_take (i := 6) (oi := ?p201) (v := ?v201) ?a201 (by kernel_rfl) ?b201 ?c201 ?q201 ?y201 hHeld ?z201
       case a201 => (simp only [List.getElem?_toArray, List.getElem?_cons_succ, List.getElem?_cons_zero]; exact rfl)
       case b201 => kernel_rfl
       case c201 => kernel_rfl
       case q201 => exact fun _ _ _ h => h
       case y201 =>
        refine Or.inl ⟨by rfl, ?_⟩
        intro V hSV
        go_simp
        (try with_reducible rfl)
       try simp only [Act.put, List.setIfInBounds_toArray, List.set_cons_zero, List.set_cons_succ]
       refine wpAnyH_take (i := 7) (oi := ?p202) (v := ?v202) ?a202 (by kernel_rfl) ?b202 ?c202 ?q202 ?y202 hHeld ?z202
       case a202 => (simp only [List.getElem?_toArray, List.getElem?_cons_succ, List.getElem?_cons_zero]; exact rfl)
       case b202 => kernel_rfl
       case c202 => kernel_rfl
       case q202 => exact fun _ _ _ h => h
       case y202 =>
        refine Or.inl ⟨by rfl, ?_⟩
        intro V hSV
        go_simp
        (try with_reducible rfl)
       try simp only [Act.put, List.setIfInBounds_toArray, List.set_cons_zero, List.set_cons_succ]
       refine wpAnyH_take (i := 8) (oi := ?p203) (v := ?v203) ?a203 (by kernel_rfl) ?b203 ?c203 ?q203 ?y203 hHeld ?z203
       case a203 => (simp only [List.getElem?_toArray, List.getElem?_cons_succ, List.getElem?_cons_zero]; exact rfl)
       case b203 => kernel_rfl
       case c203 => kernel_rfl
       case q203 => exact fun _ _ _ h => h
       case y203 =>
        refine Or.inl ⟨by rfl, ?_⟩
        intro V hSV
        obtain ⟨An, nn, cn, hbS, hwS⟩ := hSV
        have s0 : V.cell? ⟨g, 0, none⟩ = some (.slice (some ⟨b, o, none⟩) nW cW) := hbS.cell 0
        have s1 : V.cell? ⟨g, 1, none⟩ = some (.int .i64 (k : Int)) := hbS.cell 1
        have s2 : V.cell? ⟨b, o + k * 3 + 1, none⟩ = some (sv T9) := by
         obtain ⟨b', o', ⟨k8, t8, a8⟩, hA', _, hx8, _, hc1', _⟩ := rdV_at (OwV.rd hwS) hlt
         simp only [Option.some.injEq, Addr.mk.injEq] at hA'
         obtain ⟨rfl, rfl, _⟩ := hA'
         rw [HT9.out, drop_at hx8]
         exact hc1'
        go_simp
        (try with_reducible rfl)
       try simp only [Act.put, List.setIfInBounds_toArray, List.set_cons_zero, List.set_cons_succ]
       refine wpAnyH_take (i := 9) (oi := ?p204) (v := ?v204) ?a204 (by kernel_rfl) ?b204 ?c204 ?q204 ?y204 hHeld ?z204
       case a204 => (simp only [List.getElem?_toArray, List.getElem?_cons_succ, List.getElem?_cons_zero]; exact rfl)
       case b204 => kernel_rfl
       case c204 => kernel_rfl
       case q204 => exact fun _ _ _ h => h
       case y204 =>
        refine Or.inl ⟨by rfl, ?_⟩
        intro V hSV
        go_simp
        (try with_reducible rfl)
       try simp only [Act.put, List.setIfInBounds_toArray, List.set_cons_zero, List.set_cons_succ]
       refine wpAnyH_take (i := 10) (oi := ?p205) (v := ?v205) ?a205 (by kernel_rfl) ?b205 ?c205 ?q205 ?y205 hHeld ?z205
       case a205 => (simp only [List.getElem?_toArray, List.getElem?_cons_succ, List.getElem?_cons_zero]; exact rfl)
       case b205 => kernel_rfl
       case c205 => kernel_rfl
       case q205 => exact fun _ _ _ h => h
       case y205 =>
        refine Or.inl ⟨by rfl, ?_⟩
        intro V hSV
        go_simp
        (try with_reducible rfl)
       try simp only [Act.put, List.setIfInBounds_toArray, List.set_cons_zero, List.set_cons_succ]
       refine wpAnyH_take (i := 11) (oi := ?p206) (v := ?v206) ?a206 (by kernel_rfl) ?b206 ?c206 ?q206 ?y206 hHeld ?z206
       case a206 => (simp only [List.getElem?_toArray, List.getElem?_cons_succ, List.getElem?_cons_zero]; exact rfl)
       case b206 => kernel_rfl
       case c206 => kernel_rfl
       case q206 => exact fun _ _ _ h => h
       case y206 =>
        refine Or.inl ⟨by rfl, ?_⟩
        intro V hSV
        go_simp
        (try with_reducible rfl)
       try simp only [Act.put, List.setIfInBounds_toArray, List.set_cons_zero, List.set_cons_succ]
       refine wpAnyH_take (i := 12) (oi := ?p207) (v := ?v207) ?a207 (by kernel_rfl) ?b207 ?c207 ?q207 ?y207 hHeld ?z207
       case a207 => (simp only [List.getElem?_toArray, List.getElem?_cons_succ, List.getElem?_cons_zero]; exact rfl)
       case b207 => kernel_rfl
       case c207 => kernel_rfl
       case q207 => exact fun _ _ _ h => h
       case y207 =>
        refine Or.inl ⟨by rfl, ?_⟩
        intro V hSV
        obtain ⟨An, nn, cn, hbS, hwS⟩ := hSV
        have s0 : V.cell? ⟨g, 0, none⟩ = some (.slice (some ⟨b, o, none⟩) nW cW) := hbS.cell 0
        have s1 : V.cell? ⟨g, 1, none⟩ = some (.int .i64 (k : Int)) := hbS.cell 1
        have s2 : V.cell? ⟨b, o + k * 3 + 1, none⟩ = some (sv T9) := by
         obtain ⟨b', o', ⟨k8, t8, a8⟩, hA', _, hx8, _, hc1', _⟩ := rdV_at (OwV.rd hwS) hlt
         simp only [Option.some.injEq, Addr.mk.injEq] at hA'
         obtain ⟨rfl, rfl, _⟩ := hA'
         rw [HT9.out, drop_at hx8]
         exact hc1'
        go_simp
        (try with_reducible rfl)
       try simp only [Act.put, List.setIfInBounds_toArray, List.set_cons_zero, List.set_cons_succ]
       refine wpAnyH_take (i := 13) (oi := ?p208) (v := ?v208) ?a208 (by kernel_rfl) ?b208 ?c208 ?q208 ?y208 hHeld ?z208
       case a208 => (simp only [List.getElem?_toArray, List.getElem?_cons_succ, List.getElem?_cons_zero]; exact rfl)
       case b208 => kernel_rfl
       case c208 => kernel_rfl
       case q208 => exact fun _ _ _ h => h
       case y208 =>
        refine Or.inl ⟨by rfl, ?_⟩
        intro V hSV
        go_simp
        (try with_reducible rfl)
       try simp only [Act.put, List.setIfInBounds_toArray, List.set_cons_zero, List.set_cons_succ]
       refine wpAnyH_take (i := 14) (oi := ?p209) (v := ?v209) ?a209 (by kernel_rfl) ?b209 ?c209 ?q209 ?y209 hHeld ?z209
       case a209 => (simp only [List.getElem?_toArray, List.getElem?_cons_succ, List.getElem?_cons_zero]; exact rfl)
       case b209 => kernel_rfl
       case c209 => kernel_rfl
       case q209 => exact fun _ _ _ h => h
       case y209 =>
        refine Or.inl ⟨by rfl, ?_⟩
        intro V hSV
        go_simp
        (try with_reducible rfl)
       try simp only [Act.put, List.setIfInBounds_toArray, List.set_cons_zero, List.set_cons_succ]
       refine wpAnyH_take (i := 15) (oi := ?p210) (v := ?v210) ?a210 (by kernel_rfl) ?b210 ?c210 ?q210 ?y210 hHeld ?z210
       case a210 => (simp only [List.getElem?_toArray, List.getElem?_cons_succ, List.getElem?_cons_zero]; exact rfl)
       case b210 => kernel_rfl
       case c210 => kernel_rfl
       case q210 => exact fun _ _ _ h => h
       case y210 =>
        refine Or.inl ⟨by rfl, ?_⟩
        intro V hSV
        obtain ⟨An, nn, cn, hbS, hwS⟩ := hSV
        have s0 : V.cell? ⟨g, 0, none⟩ = some (.slice (some ⟨b, o, none⟩) nW cW) := hbS.cell 0
        have s1 : V.cell? ⟨g, 1, none⟩ = some (.int .i64 (k : Int)) := hbS.cell 1
        have s2 : V.cell? ⟨b, o + k * 3 + 1, none⟩ = some (sv T9) := by
         obtain ⟨b', o', ⟨k8, t8, a8⟩, hA', _, hx8, _, hc1', _⟩ := rdV_at (OwV.rd hwS) hlt
         simp only [Option.some.injEq, Addr.mk.injEq] at hA'
         obtain ⟨rfl, rfl, _⟩ := hA'
         rw [HT9.out, drop_at hx8]
         exact hc1'
        go_simp
        (try with_reducible rfl)
       try simp only [Act.put, List.setIfInBounds_toArray, List.set_cons_zero, List.set_cons_succ]
       refine wpAnyH_ready (rs := [4, 16]) (by kernel_rfl) (by simp) ?_
       refine AllReadyH.cons (o := ?od211) ?hod211 (fun K hK => ?kd211) ?md211
       case hod211 => (simp only [List.getElem?_toArray, List.getElem?_cons_succ, List.getElem?_cons_zero]; exact rfl)
       case kd211 =>
        go_simp
        refine hK.out _ _ ?_ (fun hHeld => ?_)
        ·
         exact hHeld
        clear hK K
        try simp only [Act.put, List.setIfInBounds_toArray, List.set_cons_zero, List.set_cons_succ]
        refine wpAnyH_ready (rs := [16]) (by kernel_rfl) (by simp) ?_
        refine AllReadyH.cons (o := ?od212) ?hod212 (fun K hK => ?kd212) ?md212
        case hod212 => (simp only [List.getElem?_toArray, List.getElem?_cons_succ, List.getElem?_cons_zero]; exact rfl)
        case kd212 =>
         go_simp
         obtain ⟨X1, hX1⟩ : ∃ X1, X1 = U.drew.alloc (.cells #[sv T9] 9) := ⟨_, rfl⟩
         rw [show (U.alloc (.cells #[sv T9] 9)).drew = X1 from hX1.symm]
         obtain ⟨hbx, hwx, hnx, hvx, hkx, hrx, hbXs⟩ := HX.out X1 hX1
         have HBX := Lib.hid hbx
         have HWX := Lib.hid hwx
         have HNX := Lib.hid hnx
         have HVX := Lib.hid hvx
         have HKX := Lib.hid hkx
         have HRX := Lib.hid hrx
         have c3 : X1.cell? ⟨g, 3, none⟩ = some (.slice AN nN cN) := hbx.cell 3
         clear hX1 hbx hwx hnx hvx hkx hrx hlit
         refine hK.out _ _ ?_ (fun hHeld => ?_)
         ·
          exact ⟨AN, nN, cN, HBX.out, HWX.out⟩
         clear hK K
         try simp only [Act.put, List.setIfInBounds_toArray, List.set_cons_zero, List.set_cons_succ]
         refine wpAnyH_ready (rs := [17]) (by kernel_rfl) (by simp) ?_
         refine AllReadyH.cons (o := ?od213) ?hod213 (fun K hK => ?kd213) ?md213
         case hod213 => (simp only [List.getElem?_toArray, List.getElem?_cons_succ, List.getElem?_cons_zero]; exact rfl)
         case kd213 =>
          refine anyd_appS (by rfl) (.tmp 44) (.tmp 56) (by rfl) base AN cN nN names (by rfl) HNX.out _ _ 1 T9 (by rfl) HRX.out (by omega) hbXs ?_
          intro A' c' W2 ho2 hg2 hid2
          obtain ⟨hb2, hw2, hv2, hne2, hk2⟩ := rowGrown HBX.out HWX.out HNX.out HVX.out HNE.out hg2 hid2 hbXs
          have HO2 := Lib.hid ho2
          have HB2 := Lib.hid hb2
          have HW2 := Lib.hid hw2
          have HV2 := Lib.hid hv2
          have HNE2 := Lib.hid hne2
          have HK2 := Lib.hid (HKX.out.trans hk2)
          have f3 : W2.frozen? ⟨g, 3, none⟩ = false := hb2.frozen 3
          have c3' : W2.cell? ⟨g, 3, none⟩ = some (.slice AN nN cN) := hb2.cell 3
          clear ho2 hg2 hid2 hb2 hw2 hv2 hne2 hk2
          refine hK.out _ _ ?_ (fun hHeld => ?_)
          ·
           exact ⟨AN, nN, cN, HB2.out, HW2.out⟩
          clear hK K
          try simp only [Act.put, List.setIfInBounds_toArray, List.set_cons_zero, List.set_cons_succ]
          refine wpAnyH_take (i := 18) (oi := ?p214) (v := ?v214) ?a214 (by kernel_rfl) ?b214 ?c214 ?q214 ?y214 hHeld ?z214
          case a214 => (simp only [List.getElem?_toArray, List.getElem?_cons_succ, List.getElem?_cons_zero]; exact rfl)
          case b214 => kernel_rfl
          case c214 => kernel_rfl
          case q214 => exact fun _ _ _ h => h
          case y214 =>
           refine Or.inl ⟨by rfl, ?_⟩
           intro V hSV
           go_simp
           (try with_reducible rfl)
          try simp only [Act.put, List.setIfInBounds_toArray, List.set_cons_zero, List.set_cons_succ]
          refine wpAnyH_take (i := 19) (oi := ?p215) (v := ?v215) ?a215 (by kernel_rfl) ?b215 ?c215 ?q215 ?y215 hHeld ?z215
          case a215 => (simp only [List.getElem?_toArray, List.getElem?_cons_succ, List.getElem?_cons_zero]; exact rfl)
          case b215 => kernel_rfl
          case c215 => kernel_rfl
          case q215 => exact fun _ _ _ h => h
          case y215 =>
           refine Or.inl ⟨by rfl, ?_⟩
           intro V hSV
           go_simp
           (try with_reducible rfl)
          try simp only [Act.put, List.setIfInBounds_toArray, List.set_cons_zero, List.set_cons_succ]
          refine wpAnyH_ready (rs := [20]) (by kernel_rfl) (by simp) ?_
          refine AllReadyH.cons (o := ?od216) ?hod216 (fun K hK => ?kd216) ?md216
          case hod216 => (simp only [List.getElem?_toArray, List.getElem?_cons_succ, List.getElem?_cons_zero]; exact rfl)
          case kd216 =>
           go_simp
           have ht3 : Only g W2 (W2.setCell ⟨g, 3, none⟩ (.slice A' (nN + 1) c')) := Turn.setCell (G := fun j => j = g) (Turn.refl _ W2) (fun _ => rfl) _
           have HBU := Lib.hid (show Bk (W2.setCell ⟨g, 3, none⟩ (.slice A' (nN + 1) c')) g PT (pzC (some ⟨b, o, none⟩) nW cW k sz A' (nN + 1) c' AV nV cV 0 a0) from HB2.out.set_ 3 _)
           have HWU := Lib.hid (own_only HW2.out HB2.out (by decide) ht3)
           have HNU := Lib.hid (own_only HO2.out HB2.out (by decide) ht3)
           have HVU := Lib.hid (own_only HV2.out HB2.out (by decide) ht3)
           have HKU := Lib.hid (HK2.out.trans (Kp.only ht3 hg HB2.out.lt))
           clear ht3 f3 c3'
           generalize W2.setCell ⟨g, 3, none⟩ (.slice A' (nN + 1) c') = U2 at HBU HWU HNU HVU HKU ⊢
           refine hK.out _ _ ?_ (fun hHeld => ?_)
           ·
            exact ⟨A', nN + 1, c', HBU.out, HWU.out⟩
           clear hK K
           try simp only [Act.put, List.setIfInBounds_toArray, List.set_cons_zero, List.set_cons_succ]
           refine wpAnyH_done (by kernel_rfl) ?_ _
           clear hHeld HS0 HX HB1 HW1 HN1 HV1 HK1 HBX HWX HNX HVX HKX HRX HB2 HW2 HV2 HO2 HK2 c3 hbW hbXs hgl
           try clear hlit
           have c3 : U2.cell? ⟨g, 3, none⟩ = some (.slice A' (nN + 1) c') := HBU.out.cell 3
           rw [HT9.out] at HNU
           have HFO2 := Lib.hid (show findO (names ++ [txE (ws.drop k)]) (txE (ws.drop k)) = some nN by rw [findO_append _ _ _ HFO.out, if_pos rfl, HNL.out])
           clear HFO
           have HFO := HFO2
           have HNE := HNE2
           clear HFO2 HNE2
           repeat (first | go_skip | go_guarded | go_step)
           have HWD := Lib.hid (show ∀ q, Calls Tryz.prog 61 #[.pointer (some ⟨g, 0, none⟩), .int .u8 1] (U2.drewN q) fun e w' => e = .returned (sv (txE (ws.drop k))) ∧ Only g U2 w' ∧ k ≤ nW ∧ Bk w' g PT (pzC (some ⟨b, o, none⟩) nW cW (k + 1) sz A' (nN + 1) c' AV nV cV 0 a0) ∧ (k + 1) ≤ nW from fun q => by
            refine (pWord_any 1 base ws (U2.drewN q) HBU.out HWU.out hk (by omega) (by omega)).mono ?_
            rintro e w' ⟨ht, hd⟩
            have ht' : Only g U2 w' := Turn.trans (Turn.ofBelow (G := fun j => j = g) (belowDrews (Below.refl _ U2) q)) ht
            rcases hd with ⟨h1, h2, h3, h4, h5⟩ | ⟨h1, h2, h3, h4⟩ | ⟨h1, h3, h4⟩
            ·
             exact ⟨h3, ht', hk, h5, h4⟩
            ·
             exact absurd HKN.out h2
            ·
             exact absurd rfl h1)
           obtain ⟨T, hT⟩ : ∃ T : ByteArray, T = (txE (ws.drop k)) := ⟨_, rfl⟩
           rw [← hT] at HWD
           have HTX := Lib.hid hT
           clear hT
           have HZ := Lib.hid (show findZ (names ++ [txE (ws.drop k)]) T = (nN : Int) by unfold findZ; rw [HTX.out, HFO.out])
           have hwr : IntKind.u32.wrap (nN : Int) = (nN : Int) := by rw [IntKind.wrap_u32] <;> omega
           refine wp_region_held_drew (S := fun V => V.cell? ⟨g, 3, none⟩ = some (.slice A' (nN + 1) c')) (by kernel_rfl) ?_ (fun hHeld => ?_)
           ·
            exact c3
           refine wpAnyH_take (i := 0) (oi := ?p217) (v := ?v217) ?a217 (by kernel_rfl) ?b217 ?c217 ?q217 ?y217 hHeld ?z217
           case a217 => (simp only [List.getElem?_toArray, List.getElem?_cons_succ, List.getElem?_cons_zero]; exact rfl)
           case b217 => kernel_rfl
           case c217 => kernel_rfl
           case q217 => exact fun _ _ _ h => h
           case y217 =>
            refine Or.inl ⟨by rfl, ?_⟩
            intro V hSV
            go_simp
            (try with_reducible rfl)
           try simp only [Act.put, List.setIfInBounds_toArray, List.set_cons_zero, List.set_cons_succ]
           refine wpAnyH_take (i := 1) (oi := ?p218) (v := ?v218) ?a218 (by kernel_rfl) ?b218 ?c218 ?q218 ?y218 hHeld ?z218
           case a218 => (simp only [List.getElem?_toArray, List.getElem?_cons_succ, List.getElem?_cons_zero]; exact rfl)
           case b218 => kernel_rfl
           case c218 => kernel_rfl
           case q218 => exact fun _ _ _ h => h
           case y218 =>
            refine Or.inl ⟨by rfl, ?_⟩
            intro V hSV
            go_simp
            (try with_reducible rfl)
           try simp only [Act.put, List.setIfInBounds_toArray, List.set_cons_zero, List.set_cons_succ]
           refine wpAnyH_take (i := 2) (oi := ?p219) (v := ?v219) ?a219 (by kernel_rfl) ?b219 ?c219 ?q219 ?y219 hHeld ?z219
           case a219 => (simp only [List.getElem?_toArray, List.getElem?_cons_succ, List.getElem?_cons_zero]; exact rfl)
           case b219 => kernel_rfl
           case c219 => kernel_rfl
           case q219 => exact fun _ _ _ h => h
           case y219 =>
            refine Or.inl ⟨by rfl, ?_⟩
            intro V hSV
            go_simp
            (try with_reducible rfl)
           try simp only [Act.put, List.setIfInBounds_toArray, List.set_cons_zero, List.set_cons_succ]
           refine wpAnyH_take (i := 3) (oi := ?p220) (v := ?v220) ?a220 (by kernel_rfl) ?b220 ?c220 ?q220 ?y220 hHeld ?z220
           case a220 => (simp only [List.getElem?_toArray, List.getElem?_cons_succ, List.getElem?_cons_zero]; exact rfl)
           case b220 => kernel_rfl
           case c220 => kernel_rfl
           case q220 => exact fun _ _ _ h => h
           case y220 =>
            refine Or.inl ⟨by rfl, ?_⟩
            intro V hSV
            go_simp
            (try with_reducible rfl)
           try simp only [Act.put, List.setIfInBounds_toArray, List.set_cons_zero, List.set_cons_succ]
           refine wpAnyH_take (i := 4) (oi := ?p221) (v := ?v221) ?a221 (by kernel_rfl) ?b221 ?c221 ?q221 ?y221 hHeld ?z221
           case a221 => (simp only [List.getElem?_toArray, List.getElem?_cons_succ, List.getElem?_cons_zero]; exact rfl)
           case b221 => kernel_rfl
           case c221 => kernel_rfl
           case q221 => exact fun _ _ _ h => h
           case y221 =>
            refine Or.inl ⟨by rfl, ?_⟩
            intro V hSV
            go_simp
            (try with_reducible rfl)
           try simp only [Act.put, List.setIfInBounds_toArray, List.set_cons_zero, List.set_cons_succ]
           refine wpAnyH_ready (rs := [5]) (by kernel_rfl) (by simp) ?_
           refine AllReadyH.cons (o := ?od222) ?hod222 (fun K hK => ?kd222) ?md222
           case hod222 => (simp only [List.getElem?_toArray, List.getElem?_cons_succ, List.getElem?_cons_zero]; exact rfl)
           case kd222 =>
            go_simp
            refine (HWD.out 1).mono ?_
            rintro e V ⟨rfl, ht2, _, hb2, hk2⟩
            have HT2 := Lib.hid ht2
            have HB2 := Lib.hid hb2
            have HIX2 := Lib.hid (pIndex_any A' (nN + 1) c' (names ++ [txE (ws.drop k)]) T V (Rd.ofOwn (own_only HNU.out HBU.out (by decide) ht2)) (by omega))
            rw [HZ.out] at HIX2
            clear ht2 hb2
            (try dsimp only)
            refine hK.out _ _ ?_ (fun hHeld => ?_)
            ·
             exact HB2.out.cell 3
            clear hK K
            try simp only [Act.put, List.setIfInBounds_toArray, List.set_cons_zero, List.set_cons_succ]
            refine wpAnyH_ready (rs := [6]) (by kernel_rfl) (by simp) ?_
            refine AllReadyH.cons (o := ?od223) ?hod223 (fun K hK => ?kd223) ?md223
            case hod223 => (simp only [List.getElem?_toArray, List.getElem?_cons_succ, List.getElem?_cons_zero]; exact rfl)
            case kd223 =>
             go_simp
             refine HIX2.out.mono ?_
             rintro e V2 ⟨rfl, rfl⟩
             (try dsimp only)
             refine hK.out _ _ ?_ (fun hHeld => ?_)
             ·
              exact HB2.out.cell 3
             clear hK K
             try simp only [Act.put, List.setIfInBounds_toArray, List.set_cons_zero, List.set_cons_succ]
             refine wpAnyH_take (i := 7) (oi := ?p224) (v := ?v224) ?a224 (by kernel_rfl) ?b224 ?c224 ?q224 ?y224 hHeld ?z224
             case a224 => (simp only [List.getElem?_toArray, List.getElem?_cons_succ, List.getElem?_cons_zero]; exact rfl)
             case b224 => kernel_rfl
             case c224 => kernel_rfl
             case q224 => exact fun _ _ _ h => h
             case y224 =>
              refine Or.inl ⟨by rfl, ?_⟩
              intro V hSV
              go_simp
              (try with_reducible rfl)
             try simp only [Act.put, List.setIfInBounds_toArray, List.set_cons_zero, List.set_cons_succ]
             refine wpAnyH_take (i := 8) (oi := ?p225) (v := ?v225) ?a225 (by kernel_rfl) ?b225 ?c225 ?q225 ?y225 hHeld ?z225
             case a225 => (simp only [List.getElem?_toArray, List.getElem?_cons_succ, List.getElem?_cons_zero]; exact rfl)
             case b225 => kernel_rfl
             case c225 => kernel_rfl
             case q225 => exact fun _ _ _ h => h
             case y225 =>
              refine Or.inl ⟨by rfl, ?_⟩
              intro V hSV
              go_simp
              (try with_reducible rfl)
             try simp only [Act.put, List.setIfInBounds_toArray, List.set_cons_zero, List.set_cons_succ]
             refine wpAnyH_take (i := 9) (oi := ?p226) (v := ?v226) ?a226 (by kernel_rfl) ?b226 ?c226 ?q226 ?y226 hHeld ?z226
             case a226 => (simp only [List.getElem?_toArray, List.getElem?_cons_succ, List.getElem?_cons_zero]; exact rfl)
             case b226 => kernel_rfl
             case c226 => kernel_rfl
             case q226 => exact fun _ _ _ h => h
             case y226 =>
              refine Or.inl ⟨by rfl, ?_⟩
              intro V hSV
              go_simp
              (try with_reducible rfl)
             try simp only [Act.put, List.setIfInBounds_toArray, List.set_cons_zero, List.set_cons_succ]
             refine wpAnyH_done (by kernel_rfl) ?_ _
             clear hHeld
             repeat (first | go_skip | go_guarded | go_step)
             go_ret
             exact ⟨nN, by first | rfl | simp, by omega, mkSt (x := goE _ (nameE sz)) hg HBU.out HB2.out HWU.out HNU.out HVU.out HNE.out hk2 hW (by omega) hV HT2.out (by rw [show goE (Except.ok (ws.drop k, names, vars)) (nameE sz) = .ok (ws.drop (k + 1), (names ++ [txE (ws.drop k)]), vars) by unfold goE; dsimp only; rw [HNM.out]]; exact ⟨rfl, rfl⟩), (fun s u s2 h h2 => by cases h; rw [HNM.out] at h2; cases h2; rfl), HKU.out.trans (Kp.only HT2.out hg HBU.out.lt)⟩
            exact AllReadyH.nil
           exact AllReadyH.nil
          exact AllReadyH.nil
         exact AllReadyH.nil
        exact AllReadyH.nil
       refine AllReadyH.cons (o := ?od227) ?hod227 (fun K hK => ?kd227) ?md227
       case hod227 => (simp only [List.getElem?_toArray, List.getElem?_cons_succ, List.getElem?_cons_zero]; exact rfl)
       case kd227 =>
        go_simp
        obtain ⟨X1, hX1⟩ : ∃ X1, X1 = U.drew.alloc (.cells #[sv T9] 9) := ⟨_, rfl⟩
        rw [show (U.alloc (.cells #[sv T9] 9)).drew = X1 from hX1.symm]
        obtain ⟨hbx, hwx, hnx, hvx, hkx, hrx, hbXs⟩ := HX.out X1 hX1
        have HBX := Lib.hid hbx
        have HWX := Lib.hid hwx
        have HNX := Lib.hid hnx
        have HVX := Lib.hid hvx
        have HKX := Lib.hid hkx
        have HRX := Lib.hid hrx
        have c3 : X1.cell? ⟨g, 3, none⟩ = some (.slice AN nN cN) := hbx.cell 3
        clear hX1 hbx hwx hnx hvx hkx hrx hlit
        refine hK.out _ _ ?_ (fun hHeld => ?_)
        ·
         exact ⟨AN, nN, cN, HBX.out, HWX.out⟩
        clear hK K
        try simp only [Act.put, List.setIfInBounds_toArray, List.set_cons_zero, List.set_cons_succ]
        refine wpAnyH_ready (rs := [4]) (by kernel_rfl) (by simp) ?_
        refine AllReadyH.cons (o := ?od228) ?hod228 (fun K hK => ?kd228) ?md228
        case hod228 => (simp only [List.getElem?_toArray, List.getElem?_cons_succ, List.getElem?_cons_zero]; exact rfl)
        case kd228 =>
         go_simp
         refine hK.out _ _ ?_ (fun hHeld => ?_)
         ·
          exact hHeld
         clear hK K
         try simp only [Act.put, List.setIfInBounds_toArray, List.set_cons_zero, List.set_cons_succ]
         refine wpAnyH_ready (rs := [17]) (by kernel_rfl) (by simp) ?_
         refine AllReadyH.cons (o := ?od229) ?hod229 (fun K hK => ?kd229) ?md229
         case hod229 => (simp only [List.getElem?_toArray, List.getElem?_cons_succ, List.getElem?_cons_zero]; exact rfl)
         case kd229 =>
          refine anyd_appS (by rfl) (.tmp 44) (.tmp 56) (by rfl) base AN cN nN names (by rfl) HNX.out _ _ 1 T9 (by rfl) HRX.out (by omega) hbXs ?_
          intro A' c' W2 ho2 hg2 hid2
          obtain ⟨hb2, hw2, hv2, hne2, hk2⟩ := rowGrown HBX.out HWX.out HNX.out HVX.out HNE.out hg2 hid2 hbXs
          have HO2 := Lib.hid ho2
          have HB2 := Lib.hid hb2
          have HW2 := Lib.hid hw2
          have HV2 := Lib.hid hv2
          have HNE2 := Lib.hid hne2
          have HK2 := Lib.hid (HKX.out.trans hk2)
          have f3 : W2.frozen? ⟨g, 3, none⟩ = false := hb2.frozen 3
          have c3' : W2.cell? ⟨g, 3, none⟩ = some (.slice AN nN cN) := hb2.cell 3
          clear ho2 hg2 hid2 hb2 hw2 hv2 hne2 hk2
          refine hK.out _ _ ?_ (fun hHeld => ?_)
          ·
           exact ⟨AN, nN, cN, HB2.out, HW2.out⟩
          clear hK K
          try simp only [Act.put, List.setIfInBounds_toArray, List.set_cons_zero, List.set_cons_succ]
          refine wpAnyH_take (i := 18) (oi := ?p230) (v := ?v230) ?a230 (by kernel_rfl) ?b230 ?c230 ?q230 ?y230 hHeld ?z230
          case a230 => (simp only [List.getElem?_toArray, List.getElem?_cons_succ, List.getElem?_cons_zero]; exact rfl)
          case b230 => kernel_rfl
          case c230 => kernel_rfl
          case q230 => exact fun _ _ _ h => h
          case y230 =>
           refine Or.inl ⟨by rfl, ?_⟩
           intro V hSV
           go_simp
           (try with_reducible rfl)
          try simp only [Act.put, List.setIfInBounds_toArray, List.set_cons_zero, List.set_cons_succ]
          refine wpAnyH_take (i := 19) (oi := ?p231) (v := ?v231) ?a231 (by kernel_rfl) ?b231 ?c231 ?q231 ?y231 hHeld ?z231
          case a231 => (simp only [List.getElem?_toArray, List.getElem?_cons_succ, List.getElem?_cons_zero]; exact rfl)
          case b231 => kernel_rfl
          case c231 => kernel_rfl
          case q231 => exact fun _ _ _ h => h
          case y231 =>
           refine Or.inl ⟨by rfl, ?_⟩
           intro V hSV
           go_simp
           (try with_reducible rfl)
          try simp only [Act.put, List.setIfInBounds_toArray, List.set_cons_zero, List.set_cons_succ]
          refine wpAnyH_ready (rs := [20]) (by kernel_rfl) (by simp) ?_
          refine AllReadyH.cons (o := ?od232) ?hod232 (fun K hK => ?kd232) ?md232
          case hod232 => (simp only [List.getElem?_toArray, List.getElem?_cons_succ, List.getElem?_cons_zero]; exact rfl)
          case kd232 =>
           go_simp
           have ht3 : Only g W2 (W2.setCell ⟨g, 3, none⟩ (.slice A' (nN + 1) c')) := Turn.setCell (G := fun j => j = g) (Turn.refl _ W2) (fun _ => rfl) _
           have HBU := Lib.hid (show Bk (W2.setCell ⟨g, 3, none⟩ (.slice A' (nN + 1) c')) g PT (pzC (some ⟨b, o, none⟩) nW cW k sz A' (nN + 1) c' AV nV cV 0 a0) from HB2.out.set_ 3 _)
           have HWU := Lib.hid (own_only HW2.out HB2.out (by decide) ht3)
           have HNU := Lib.hid (own_only HO2.out HB2.out (by decide) ht3)
           have HVU := Lib.hid (own_only HV2.out HB2.out (by decide) ht3)
           have HKU := Lib.hid (HK2.out.trans (Kp.only ht3 hg HB2.out.lt))
           clear ht3 f3 c3'
           generalize W2.setCell ⟨g, 3, none⟩ (.slice A' (nN + 1) c') = U2 at HBU HWU HNU HVU HKU ⊢
           refine hK.out _ _ ?_ (fun hHeld => ?_)
           ·
            exact ⟨A', nN + 1, c', HBU.out, HWU.out⟩
           clear hK K
           try simp only [Act.put, List.setIfInBounds_toArray, List.set_cons_zero, List.set_cons_succ]
           refine wpAnyH_done (by kernel_rfl) ?_ _
           clear hHeld HS0 HX HB1 HW1 HN1 HV1 HK1 HBX HWX HNX HVX HKX HRX HB2 HW2 HV2 HO2 HK2 c3 hbW hbXs hgl
           try clear hlit
           have c3 : U2.cell? ⟨g, 3, none⟩ = some (.slice A' (nN + 1) c') := HBU.out.cell 3
           rw [HT9.out] at HNU
           have HFO2 := Lib.hid (show findO (names ++ [txE (ws.drop k)]) (txE (ws.drop k)) = some nN by rw [findO_append _ _ _ HFO.out, if_pos rfl, HNL.out])
           clear HFO
           have HFO := HFO2
           have HNE := HNE2
           clear HFO2 HNE2
           repeat (first | go_skip | go_guarded | go_step)
           have HWD := Lib.hid (show ∀ q, Calls Tryz.prog 61 #[.pointer (some ⟨g, 0, none⟩), .int .u8 1] (U2.drewN q) fun e w' => e = .returned (sv (txE (ws.drop k))) ∧ Only g U2 w' ∧ k ≤ nW ∧ Bk w' g PT (pzC (some ⟨b, o, none⟩) nW cW (k + 1) sz A' (nN + 1) c' AV nV cV 0 a0) ∧ (k + 1) ≤ nW from fun q => by
            refine (pWord_any 1 base ws (U2.drewN q) HBU.out HWU.out hk (by omega) (by omega)).mono ?_
            rintro e w' ⟨ht, hd⟩
            have ht' : Only g U2 w' := Turn.trans (Turn.ofBelow (G := fun j => j = g) (belowDrews (Below.refl _ U2) q)) ht
            rcases hd with ⟨h1, h2, h3, h4, h5⟩ | ⟨h1, h2, h3, h4⟩ | ⟨h1, h3, h4⟩
            ·
             exact ⟨h3, ht', hk, h5, h4⟩
            ·
             exact absurd HKN.out h2
            ·
             exact absurd rfl h1)
           obtain ⟨T, hT⟩ : ∃ T : ByteArray, T = (txE (ws.drop k)) := ⟨_, rfl⟩
           rw [← hT] at HWD
           have HTX := Lib.hid hT
           clear hT
           have HZ := Lib.hid (show findZ (names ++ [txE (ws.drop k)]) T = (nN : Int) by unfold findZ; rw [HTX.out, HFO.out])
           have hwr : IntKind.u32.wrap (nN : Int) = (nN : Int) := by rw [IntKind.wrap_u32] <;> omega
           refine wp_region_held_drew (S := fun V => V.cell? ⟨g, 3, none⟩ = some (.slice A' (nN + 1) c')) (by kernel_rfl) ?_ (fun hHeld => ?_)
           ·
            exact c3
           refine wpAnyH_take (i := 0) (oi := ?p233) (v := ?v233) ?a233 (by kernel_rfl) ?b233 ?c233 ?q233 ?y233 hHeld ?z233
           case a233 => (simp only [List.getElem?_toArray, List.getElem?_cons_succ, List.getElem?_cons_zero]; exact rfl)
           case b233 => kernel_rfl
           case c233 => kernel_rfl
           case q233 => exact fun _ _ _ h => h
           case y233 =>
            refine Or.inl ⟨by rfl, ?_⟩
            intro V hSV
            go_simp
            (try with_reducible rfl)
           try simp only [Act.put, List.setIfInBounds_toArray, List.set_cons_zero, List.set_cons_succ]
           refine wpAnyH_take (i := 1) (oi := ?p234) (v := ?v234) ?a234 (by kernel_rfl) ?b234 ?c234 ?q234 ?y234 hHeld ?z234
           case a234 => (simp only [List.getElem?_toArray, List.getElem?_cons_succ, List.getElem?_cons_zero]; exact rfl)
           case b234 => kernel_rfl
           case c234 => kernel_rfl
           case q234 => exact fun _ _ _ h => h
           case y234 =>
            refine Or.inl ⟨by rfl, ?_⟩
            intro V hSV
            go_simp
            (try with_reducible rfl)
           try simp only [Act.put, List.setIfInBounds_toArray, List.set_cons_zero, List.set_cons_succ]
           refine wpAnyH_take (i := 2) (oi := ?p235) (v := ?v235) ?a235 (by kernel_rfl) ?b235 ?c235 ?q235 ?y235 hHeld ?z235
           case a235 => (simp only [List.getElem?_toArray, List.getElem?_cons_succ, List.getElem?_cons_zero]; exact rfl)
           case b235 => kernel_rfl
           case c235 => kernel_rfl
           case q235 => exact fun _ _ _ h => h
           case y235 =>
            refine Or.inl ⟨by rfl, ?_⟩
            intro V hSV
            go_simp
            (try with_reducible rfl)
           try simp only [Act.put, List.setIfInBounds_toArray, List.set_cons_zero, List.set_cons_succ]
           refine wpAnyH_take (i := 3) (oi := ?p236) (v := ?v236) ?a236 (by kernel_rfl) ?b236 ?c236 ?q236 ?y236 hHeld ?z236
           case a236 => (simp only [List.getElem?_toArray, List.getElem?_cons_succ, List.getElem?_cons_zero]; exact rfl)
           case b236 => kernel_rfl
           case c236 => kernel_rfl
           case q236 => exact fun _ _ _ h => h
           case y236 =>
            refine Or.inl ⟨by rfl, ?_⟩
            intro V hSV
            go_simp
            (try with_reducible rfl)
           try simp only [Act.put, List.setIfInBounds_toArray, List.set_cons_zero, List.set_cons_succ]
           refine wpAnyH_take (i := 4) (oi := ?p237) (v := ?v237) ?a237 (by kernel_rfl) ?b237 ?c237 ?q237 ?y237 hHeld ?z237
           case a237 => (simp only [List.getElem?_toArray, List.getElem?_cons_succ, List.getElem?_cons_zero]; exact rfl)
           case b237 => kernel_rfl
           case c237 => kernel_rfl
           case q237 => exact fun _ _ _ h => h
           case y237 =>
            refine Or.inl ⟨by rfl, ?_⟩
            intro V hSV
            go_simp
            (try with_reducible rfl)
           try simp only [Act.put, List.setIfInBounds_toArray, List.set_cons_zero, List.set_cons_succ]
           refine wpAnyH_ready (rs := [5]) (by kernel_rfl) (by simp) ?_
           refine AllReadyH.cons (o := ?od238) ?hod238 (fun K hK => ?kd238) ?md238
           case hod238 => (simp only [List.getElem?_toArray, List.getElem?_cons_succ, List.getElem?_cons_zero]; exact rfl)
           case kd238 =>
            go_simp
            refine (HWD.out 1).mono ?_
            rintro e V ⟨rfl, ht2, _, hb2, hk2⟩
            have HT2 := Lib.hid ht2
            have HB2 := Lib.hid hb2
            have HIX2 := Lib.hid (pIndex_any A' (nN + 1) c' (names ++ [txE (ws.drop k)]) T V (Rd.ofOwn (own_only HNU.out HBU.out (by decide) ht2)) (by omega))
            rw [HZ.out] at HIX2
            clear ht2 hb2
            (try dsimp only)
            refine hK.out _ _ ?_ (fun hHeld => ?_)
            ·
             exact HB2.out.cell 3
            clear hK K
            try simp only [Act.put, List.setIfInBounds_toArray, List.set_cons_zero, List.set_cons_succ]
            refine wpAnyH_ready (rs := [6]) (by kernel_rfl) (by simp) ?_
            refine AllReadyH.cons (o := ?od239) ?hod239 (fun K hK => ?kd239) ?md239
            case hod239 => (simp only [List.getElem?_toArray, List.getElem?_cons_succ, List.getElem?_cons_zero]; exact rfl)
            case kd239 =>
             go_simp
             refine HIX2.out.mono ?_
             rintro e V2 ⟨rfl, rfl⟩
             (try dsimp only)
             refine hK.out _ _ ?_ (fun hHeld => ?_)
             ·
              exact HB2.out.cell 3
             clear hK K
             try simp only [Act.put, List.setIfInBounds_toArray, List.set_cons_zero, List.set_cons_succ]
             refine wpAnyH_take (i := 7) (oi := ?p240) (v := ?v240) ?a240 (by kernel_rfl) ?b240 ?c240 ?q240 ?y240 hHeld ?z240
             case a240 => (simp only [List.getElem?_toArray, List.getElem?_cons_succ, List.getElem?_cons_zero]; exact rfl)
             case b240 => kernel_rfl
             case c240 => kernel_rfl
             case q240 => exact fun _ _ _ h => h
             case y240 =>
              refine Or.inl ⟨by rfl, ?_⟩
              intro V hSV
              go_simp
              (try with_reducible rfl)
             try simp only [Act.put, List.setIfInBounds_toArray, List.set_cons_zero, List.set_cons_succ]
             refine wpAnyH_take (i := 8) (oi := ?p241) (v := ?v241) ?a241 (by kernel_rfl) ?b241 ?c241 ?q241 ?y241 hHeld ?z241
             case a241 => (simp only [List.getElem?_toArray, List.getElem?_cons_succ, List.getElem?_cons_zero]; exact rfl)
             case b241 => kernel_rfl
             case c241 => kernel_rfl
             case q241 => exact fun _ _ _ h => h
             case y241 =>
              refine Or.inl ⟨by rfl, ?_⟩
              intro V hSV
              go_simp
              (try with_reducible rfl)
             try simp only [Act.put, List.setIfInBounds_toArray, List.set_cons_zero, List.set_cons_succ]
             refine wpAnyH_take (i := 9) (oi := ?p242) (v := ?v242) ?a242 (by kernel_rfl) ?b242 ?c242 ?q242 ?y242 hHeld ?z242
             case a242 => (simp only [List.getElem?_toArray, List.getElem?_cons_succ, List.getElem?_cons_zero]; exact rfl)
             case b242 => kernel_rfl
             case c242 => kernel_rfl
             case q242 => exact fun _ _ _ h => h
             case y242 =>
              refine Or.inl ⟨by rfl, ?_⟩
              intro V hSV
              go_simp
              (try with_reducible rfl)
             try simp only [Act.put, List.setIfInBounds_toArray, List.set_cons_zero, List.set_cons_succ]
             refine wpAnyH_done (by kernel_rfl) ?_ _
             clear hHeld
             repeat (first | go_skip | go_guarded | go_step)
             go_ret
             exact ⟨nN, by first | rfl | simp, by omega, mkSt (x := goE _ (nameE sz)) hg HBU.out HB2.out HWU.out HNU.out HVU.out HNE.out hk2 hW (by omega) hV HT2.out (by rw [show goE (Except.ok (ws.drop k, names, vars)) (nameE sz) = .ok (ws.drop (k + 1), (names ++ [txE (ws.drop k)]), vars) by unfold goE; dsimp only; rw [HNM.out]]; exact ⟨rfl, rfl⟩), (fun s u s2 h h2 => by cases h; rw [HNM.out] at h2; cases h2; rfl), HKU.out.trans (Kp.only HT2.out hg HBU.out.lt)⟩
            exact AllReadyH.nil
           exact AllReadyH.nil
          exact AllReadyH.nil
         exact AllReadyH.nil
        exact AllReadyH.nil
       exact AllReadyH.nil
      exact AllReadyH.nil
     exact AllReadyH.nil
  ·
   have dk : ((kk : Int) == 1) = false := by rw [beq_eq_false_iff_ne]; omega
   have HKN := Lib.hid (show kindE (ws.drop k) ≠ 1 by rw [← HKK.out]; exact h1)
   have HNM := Lib.hid (show nameE sz (ws.drop k, names, vars) = .error (5, placeE sz (ws.drop k)) by unfold nameE; dsimp only; rw [if_neg HKN.out])
   clear h1
   go_enter Tryz.func105, Tryz.ntmps105
   repeat (first | go_skip | go_guarded | go_step)
   refine wp_region_held_drew (S := fun V => ∃ q, V = w.drewN q) (by kernel_rfl) ?_ (fun hHeld => ?_)
   ·
    exact ⟨1, rfl⟩
   refine wpAnyH_take (i := 0) (oi := ?p243) (v := ?v243) ?a243 (by kernel_rfl) ?b243 ?c243 ?q243 ?y243 hHeld ?z243
   case a243 => (simp only [List.getElem?_toArray, List.getElem?_cons_succ, List.getElem?_cons_zero]; exact rfl)
   case b243 => kernel_rfl
   case c243 => kernel_rfl
   case q243 => exact fun _ _ _ h => h
   case y243 =>
    refine Or.inl ⟨by rfl, ?_⟩
    intro V hSV
    go_simp
    (try with_reducible rfl)
   try simp only [Act.put, List.setIfInBounds_toArray, List.set_cons_zero, List.set_cons_succ]
   refine wpAnyH_ready (rs := [1]) (by kernel_rfl) (by simp) ?_
   refine AllReadyH.cons (o := ?od244) ?hod244 (fun K hK => ?kd244) ?md244
   case hod244 => (simp only [List.getElem?_toArray, List.getElem?_cons_succ, List.getElem?_cons_zero]; exact rfl)
   case kd244 =>
    go_simp
    refine (HKD.out 1).mono ?_
    rintro e V ⟨rfl, q1, rfl⟩
    (try dsimp only)
    refine hK.out _ _ ?_ (fun hHeld => ?_)
    ·
     exact ⟨1 + q1, World.drewN_drewN _ _ _⟩
    clear hK K
    try simp only [Act.put, List.setIfInBounds_toArray, List.set_cons_zero, List.set_cons_succ]
    refine wpAnyH_take (i := 2) (oi := ?oid245) (v := .bool false) ?hod245 (by kernel_rfl) ?hfd245 ?hrd245 ?hQd245 ?hyd245 hHeld ?restd245
    case hod245 => (simp only [List.getElem?_toArray, List.getElem?_cons_succ, List.getElem?_cons_zero]; exact rfl)
    case hfd245 => kernel_rfl
    case hrd245 => kernel_rfl
    case hQd245 => exact fun _ _ _ h => h
    case hyd245 =>
     refine Or.inl ⟨by rfl, ?_⟩
     intro V hSV
     go_simp
     (try with_reducible rfl)
    try simp only [Act.put, List.setIfInBounds_toArray, List.set_cons_zero, List.set_cons_succ]
    refine wpAnyH_take (i := 3) (oi := ?oid246) (v := .bool false) ?hod246 (by kernel_rfl) ?hfd246 ?hrd246 ?hQd246 ?hyd246 hHeld ?restd246
    case hod246 => (simp only [List.getElem?_toArray, List.getElem?_cons_succ, List.getElem?_cons_zero]; exact rfl)
    case hfd246 => kernel_rfl
    case hrd246 => kernel_rfl
    case hQd246 => exact fun _ _ _ h => h
    case hyd246 =>
     refine Or.inl ⟨by rfl, ?_⟩
     intro V hSV
     go_simp
     (try with_reducible rfl)
    try simp only [Act.put, List.setIfInBounds_toArray, List.set_cons_zero, List.set_cons_succ]
    refine wpAnyH_take (i := 4) (oi := ?p247) (v := undef) ?a247 (by kernel_rfl) ?b247 ?c247 ?q247 ?y247 hHeld ?z247
    case a247 => (simp only [List.getElem?_toArray, List.getElem?_cons_succ, List.getElem?_cons_zero]; exact rfl)
    case b247 => kernel_rfl
    case c247 => kernel_rfl
    case q247 => exact fun _ _ _ h => h
    case y247 =>
     exact Or.inr ⟨by rfl, rfl⟩
    try simp only [Act.put, List.setIfInBounds_toArray, List.set_cons_zero, List.set_cons_succ]
    refine wpAnyH_take (i := 5) (oi := ?p248) (v := undef) ?a248 (by kernel_rfl) ?b248 ?c248 ?q248 ?y248 hHeld ?z248
    case a248 => (simp only [List.getElem?_toArray, List.getElem?_cons_succ, List.getElem?_cons_zero]; exact rfl)
    case b248 => kernel_rfl
    case c248 => kernel_rfl
    case q248 => exact fun _ _ _ h => h
    case y248 =>
     exact Or.inr ⟨by rfl, rfl⟩
    try simp only [Act.put, List.setIfInBounds_toArray, List.set_cons_zero, List.set_cons_succ]
    refine wpAnyH_take (i := 6) (oi := ?p249) (v := undef) ?a249 (by kernel_rfl) ?b249 ?c249 ?q249 ?y249 hHeld ?z249
    case a249 => (simp only [List.getElem?_toArray, List.getElem?_cons_succ, List.getElem?_cons_zero]; exact rfl)
    case b249 => kernel_rfl
    case c249 => kernel_rfl
    case q249 => exact fun _ _ _ h => h
    case y249 =>
     exact Or.inr ⟨by rfl, rfl⟩
    try simp only [Act.put, List.setIfInBounds_toArray, List.set_cons_zero, List.set_cons_succ]
    refine wpAnyH_take (i := 7) (oi := ?p250) (v := undef) ?a250 (by kernel_rfl) ?b250 ?c250 ?q250 ?y250 hHeld ?z250
    case a250 => (simp only [List.getElem?_toArray, List.getElem?_cons_succ, List.getElem?_cons_zero]; exact rfl)
    case b250 => kernel_rfl
    case c250 => kernel_rfl
    case q250 => exact fun _ _ _ h => h
    case y250 =>
     exact Or.inr ⟨by rfl, rfl⟩
    try simp only [Act.put, List.setIfInBounds_toArray, List.set_cons_zero, List.set_cons_succ]
    refine wpAnyH_take (i := 8) (oi := ?p251) (v := undef) ?a251 (by kernel_rfl) ?b251 ?c251 ?q251 ?y251 hHeld ?z251
    case a251 => (simp only [List.getElem?_toArray, List.getElem?_cons_succ, List.getElem?_cons_zero]; exact rfl)
    case b251 => kernel_rfl
    case c251 => kernel_rfl
    case q251 => exact fun _ _ _ h => h
    case y251 =>
     exact Or.inr ⟨by rfl, rfl⟩
    try simp only [Act.put, List.setIfInBounds_toArray, List.set_cons_zero, List.set_cons_succ]
    refine wpAnyH_take (i := 9) (oi := ?oid252) (v := .bool false) ?hod252 (by kernel_rfl) ?hfd252 ?hrd252 ?hQd252 ?hyd252 hHeld ?restd252
    case hod252 => (simp only [List.getElem?_toArray, List.getElem?_cons_succ, List.getElem?_cons_zero]; exact rfl)
    case hfd252 => kernel_rfl
    case hrd252 => kernel_rfl
    case hQd252 => exact fun _ _ _ h => h
    case hyd252 =>
     refine Or.inl ⟨by rfl, ?_⟩
     intro V hSV
     go_simp
     (try with_reducible rfl)
    try simp only [Act.put, List.setIfInBounds_toArray, List.set_cons_zero, List.set_cons_succ]
    refine wpAnyH_take (i := 10) (oi := ?oid253) (v := .bool false) ?hod253 (by kernel_rfl) ?hfd253 ?hrd253 ?hQd253 ?hyd253 hHeld ?restd253
    case hod253 => (simp only [List.getElem?_toArray, List.getElem?_cons_succ, List.getElem?_cons_zero]; exact rfl)
    case hfd253 => kernel_rfl
    case hrd253 => kernel_rfl
    case hQd253 => exact fun _ _ _ h => h
    case hyd253 =>
     refine Or.inl ⟨by rfl, ?_⟩
     intro V hSV
     go_simp
     (try with_reducible rfl)
    try simp only [Act.put, List.setIfInBounds_toArray, List.set_cons_zero, List.set_cons_succ]
    refine wpAnyH_take (i := 11) (oi := ?p254) (v := undef) ?a254 (by kernel_rfl) ?b254 ?c254 ?q254 ?y254 hHeld ?z254
    case a254 => (simp only [List.getElem?_toArray, List.getElem?_cons_succ, List.getElem?_cons_zero]; exact rfl)
    case b254 => kernel_rfl
    case c254 => kernel_rfl
    case q254 => exact fun _ _ _ h => h
    case y254 =>
     exact Or.inr ⟨by rfl, rfl⟩
    try simp only [Act.put, List.setIfInBounds_toArray, List.set_cons_zero, List.set_cons_succ]
    refine wpAnyH_take (i := 12) (oi := ?p255) (v := undef) ?a255 (by kernel_rfl) ?b255 ?c255 ?q255 ?y255 hHeld ?z255
    case a255 => (simp only [List.getElem?_toArray, List.getElem?_cons_succ, List.getElem?_cons_zero]; exact rfl)
    case b255 => kernel_rfl
    case c255 => kernel_rfl
    case q255 => exact fun _ _ _ h => h
    case y255 =>
     exact Or.inr ⟨by rfl, rfl⟩
    try simp only [Act.put, List.setIfInBounds_toArray, List.set_cons_zero, List.set_cons_succ]
    refine wpAnyH_take (i := 13) (oi := ?p256) (v := undef) ?a256 (by kernel_rfl) ?b256 ?c256 ?q256 ?y256 hHeld ?z256
    case a256 => (simp only [List.getElem?_toArray, List.getElem?_cons_succ, List.getElem?_cons_zero]; exact rfl)
    case b256 => kernel_rfl
    case c256 => kernel_rfl
    case q256 => exact fun _ _ _ h => h
    case y256 =>
     exact Or.inr ⟨by rfl, rfl⟩
    try simp only [Act.put, List.setIfInBounds_toArray, List.set_cons_zero, List.set_cons_succ]
    refine wpAnyH_take (i := 14) (oi := ?p257) (v := undef) ?a257 (by kernel_rfl) ?b257 ?c257 ?q257 ?y257 hHeld ?z257
    case a257 => (simp only [List.getElem?_toArray, List.getElem?_cons_succ, List.getElem?_cons_zero]; exact rfl)
    case b257 => kernel_rfl
    case c257 => kernel_rfl
    case q257 => exact fun _ _ _ h => h
    case y257 =>
     exact Or.inr ⟨by rfl, rfl⟩
    try simp only [Act.put, List.setIfInBounds_toArray, List.set_cons_zero, List.set_cons_succ]
    refine wpAnyH_take (i := 15) (oi := ?p258) (v := undef) ?a258 (by kernel_rfl) ?b258 ?c258 ?q258 ?y258 hHeld ?z258
    case a258 => (simp only [List.getElem?_toArray, List.getElem?_cons_succ, List.getElem?_cons_zero]; exact rfl)
    case b258 => kernel_rfl
    case c258 => kernel_rfl
    case q258 => exact fun _ _ _ h => h
    case y258 =>
     exact Or.inr ⟨by rfl, rfl⟩
    try simp only [Act.put, List.setIfInBounds_toArray, List.set_cons_zero, List.set_cons_succ]
    refine wpAnyH_take (i := 16) (oi := ?p259) (v := undef) ?a259 (by kernel_rfl) ?b259 ?c259 ?q259 ?y259 hHeld ?z259
    case a259 => (simp only [List.getElem?_toArray, List.getElem?_cons_succ, List.getElem?_cons_zero]; exact rfl)
    case b259 => kernel_rfl
    case c259 => kernel_rfl
    case q259 => exact fun _ _ _ h => h
    case y259 =>
     exact Or.inr ⟨by rfl, rfl⟩
    try simp only [Act.put, List.setIfInBounds_toArray, List.set_cons_zero, List.set_cons_succ]
    refine wpAnyH_take (i := 17) (oi := ?p260) (v := undef) ?a260 (by kernel_rfl) ?b260 ?c260 ?q260 ?y260 hHeld ?z260
    case a260 => (simp only [List.getElem?_toArray, List.getElem?_cons_succ, List.getElem?_cons_zero]; exact rfl)
    case b260 => kernel_rfl
    case c260 => kernel_rfl
    case q260 => exact fun _ _ _ h => h
    case y260 =>
     exact Or.inr ⟨by rfl, rfl⟩
    try simp only [Act.put, List.setIfInBounds_toArray, List.set_cons_zero, List.set_cons_succ]
    refine wpAnyH_take (i := 18) (oi := ?p261) (v := undef) ?a261 (by kernel_rfl) ?b261 ?c261 ?q261 ?y261 hHeld ?z261
    case a261 => (simp only [List.getElem?_toArray, List.getElem?_cons_succ, List.getElem?_cons_zero]; exact rfl)
    case b261 => kernel_rfl
    case c261 => kernel_rfl
    case q261 => exact fun _ _ _ h => h
    case y261 =>
     exact Or.inr ⟨by rfl, rfl⟩
    try simp only [Act.put, List.setIfInBounds_toArray, List.set_cons_zero, List.set_cons_succ]
    refine wpAnyH_take (i := 19) (oi := ?p262) (v := undef) ?a262 (by kernel_rfl) ?b262 ?c262 ?q262 ?y262 hHeld ?z262
    case a262 => (simp only [List.getElem?_toArray, List.getElem?_cons_succ, List.getElem?_cons_zero]; exact rfl)
    case b262 => kernel_rfl
    case c262 => kernel_rfl
    case q262 => exact fun _ _ _ h => h
    case y262 =>
     exact Or.inr ⟨by rfl, rfl⟩
    try simp only [Act.put, List.setIfInBounds_toArray, List.set_cons_zero, List.set_cons_succ]
    refine wpAnyH_take (i := 20) (oi := ?p263) (v := undef) ?a263 (by kernel_rfl) ?b263 ?c263 ?q263 ?y263 hHeld ?z263
    case a263 => (simp only [List.getElem?_toArray, List.getElem?_cons_succ, List.getElem?_cons_zero]; exact rfl)
    case b263 => kernel_rfl
    case c263 => kernel_rfl
    case q263 => exact fun _ _ _ h => h
    case y263 =>
     exact Or.inr ⟨by rfl, rfl⟩
    try simp only [Act.put, List.setIfInBounds_toArray, List.set_cons_zero, List.set_cons_succ]
    refine wpAnyH_take (i := 21) (oi := ?p264) (v := undef) ?a264 (by kernel_rfl) ?b264 ?c264 ?q264 ?y264 hHeld ?z264
    case a264 => (simp only [List.getElem?_toArray, List.getElem?_cons_succ, List.getElem?_cons_zero]; exact rfl)
    case b264 => kernel_rfl
    case c264 => kernel_rfl
    case q264 => exact fun _ _ _ h => h
    case y264 =>
     exact Or.inr ⟨by rfl, rfl⟩
    try simp only [Act.put, List.setIfInBounds_toArray, List.set_cons_zero, List.set_cons_succ]
    refine wpAnyH_take (i := 22) (oi := ?p265) (v := undef) ?a265 (by kernel_rfl) ?b265 ?c265 ?q265 ?y265 hHeld ?z265
    case a265 => (simp only [List.getElem?_toArray, List.getElem?_cons_succ, List.getElem?_cons_zero]; exact rfl)
    case b265 => kernel_rfl
    case c265 => kernel_rfl
    case q265 => exact fun _ _ _ h => h
    case y265 =>
     exact Or.inr ⟨by rfl, rfl⟩
    try simp only [Act.put, List.setIfInBounds_toArray, List.set_cons_zero, List.set_cons_succ]
    refine wpAnyH_take (i := 23) (oi := ?p266) (v := undef) ?a266 (by kernel_rfl) ?b266 ?c266 ?q266 ?y266 hHeld ?z266
    case a266 => (simp only [List.getElem?_toArray, List.getElem?_cons_succ, List.getElem?_cons_zero]; exact rfl)
    case b266 => kernel_rfl
    case c266 => kernel_rfl
    case q266 => exact fun _ _ _ h => h
    case y266 =>
     exact Or.inr ⟨by rfl, rfl⟩
    try simp only [Act.put, List.setIfInBounds_toArray, List.set_cons_zero, List.set_cons_succ]
    refine wpAnyH_take (i := 24) (oi := ?p267) (v := undef) ?a267 (by kernel_rfl) ?b267 ?c267 ?q267 ?y267 hHeld ?z267
    case a267 => (simp only [List.getElem?_toArray, List.getElem?_cons_succ, List.getElem?_cons_zero]; exact rfl)
    case b267 => kernel_rfl
    case c267 => kernel_rfl
    case q267 => exact fun _ _ _ h => h
    case y267 =>
     exact Or.inr ⟨by rfl, rfl⟩
    try simp only [Act.put, List.setIfInBounds_toArray, List.set_cons_zero, List.set_cons_succ]
    refine wpAnyH_take (i := 25) (oi := ?p268) (v := undef) ?a268 (by kernel_rfl) ?b268 ?c268 ?q268 ?y268 hHeld ?z268
    case a268 => (simp only [List.getElem?_toArray, List.getElem?_cons_succ, List.getElem?_cons_zero]; exact rfl)
    case b268 => kernel_rfl
    case c268 => kernel_rfl
    case q268 => exact fun _ _ _ h => h
    case y268 =>
     exact Or.inr ⟨by rfl, rfl⟩
    try simp only [Act.put, List.setIfInBounds_toArray, List.set_cons_zero, List.set_cons_succ]
    refine wpAnyH_take (i := 26) (oi := ?p269) (v := undef) ?a269 (by kernel_rfl) ?b269 ?c269 ?q269 ?y269 hHeld ?z269
    case a269 => (simp only [List.getElem?_toArray, List.getElem?_cons_succ, List.getElem?_cons_zero]; exact rfl)
    case b269 => kernel_rfl
    case c269 => kernel_rfl
    case q269 => exact fun _ _ _ h => h
    case y269 =>
     exact Or.inr ⟨by rfl, rfl⟩
    try simp only [Act.put, List.setIfInBounds_toArray, List.set_cons_zero, List.set_cons_succ]
    refine wpAnyH_take (i := 27) (oi := ?p270) (v := undef) ?a270 (by kernel_rfl) ?b270 ?c270 ?q270 ?y270 hHeld ?z270
    case a270 => (simp only [List.getElem?_toArray, List.getElem?_cons_succ, List.getElem?_cons_zero]; exact rfl)
    case b270 => kernel_rfl
    case c270 => kernel_rfl
    case q270 => exact fun _ _ _ h => h
    case y270 =>
     exact Or.inr ⟨by rfl, rfl⟩
    try simp only [Act.put, List.setIfInBounds_toArray, List.set_cons_zero, List.set_cons_succ]
    refine wpAnyH_take (i := 28) (oi := ?oid271) (v := .bool false) ?hod271 (by kernel_rfl) ?hfd271 ?hrd271 ?hQd271 ?hyd271 hHeld ?restd271
    case hod271 => (simp only [List.getElem?_toArray, List.getElem?_cons_succ, List.getElem?_cons_zero]; exact rfl)
    case hfd271 => kernel_rfl
    case hrd271 => kernel_rfl
    case hQd271 => exact fun _ _ _ h => h
    case hyd271 =>
     refine Or.inl ⟨by rfl, ?_⟩
     intro V hSV
     go_simp
     (try with_reducible rfl)
    try simp only [Act.put, List.setIfInBounds_toArray, List.set_cons_zero, List.set_cons_succ]
    refine wpAnyH_done (by kernel_rfl) ?_ _
    clear hHeld
    try rw [World.drewN_drewN]
    obtain ⟨q, hq⟩ : ∃ q, q = 1 + q1 := ⟨_, rfl⟩
    rw [← hq]
    clear hq
    have HBU := Lib.hid (show Bk (w.drewN q) g PT (pzC AW nW cW k sz AN nN cN AV nV cV 0 a0) from HB.out)
    have HWU := Lib.hid (show OwV 127 (w.drewN q) base AW cW nW ws from HW.out)
    have HNU := Lib.hid (show OwS (w.drewN q) base AN cN nN names from HN.out)
    have HVU := Lib.hid (show OwS (w.drewN q) base AV cV nV vars from HV.out)
    have HKU := Lib.hid ((Kp.refl base g w).drews q)
    clear HB HW HN HV HKD HRN c0 c1 c3 c5 f3
    try clear HIX
    try clear r1
    generalize w.drewN q = U at HBU HWU HNU HVU HKU ⊢
    have c0 : U.cell? ⟨g, 0, none⟩ = some (.slice AW nW cW) := HBU.out.cell 0
    have c1 : U.cell? ⟨g, 1, none⟩ = some (.int .i64 (k : Int)) := HBU.out.cell 1
    have c3 : U.cell? ⟨g, 3, none⟩ = some (.slice AN nN cN) := HBU.out.cell 3
    have c5 : U.cell? ⟨g, 5, none⟩ = some (.int .i64 ((0 : Nat) : Int)) := HBU.out.cell 5
    repeat (first | go_skip | go_guarded | go_step)
    have HWD := Lib.hid (show ∀ q, Calls Tryz.prog 61 #[.pointer (some ⟨g, 0, none⟩), .int .u8 1] (U.drewN q) fun e w' => e = .returned (sv ⟨#[]⟩) ∧ Only g U w' ∧ k ≤ nW ∧ Bk w' g PT (pzC AW nW cW k sz AN nN cN AV nV cV 5 (placeE sz (ws.drop k))) ∧ k ≤ nW from fun q => by
     refine (pWord_any 1 base ws (U.drewN q) HBU.out HWU.out hk (by omega) (by omega)).mono ?_
     rintro e w' ⟨ht, hd⟩
     have ht' : Only g U w' := Turn.trans (Turn.ofBelow (G := fun j => j = g) (belowDrews (Below.refl _ U) q)) ht
     rcases hd with ⟨h1, h2, h3, h4, h5⟩ | ⟨h1, h2, h3, h4⟩ | ⟨h1, h3, h4⟩
     ·
      exact absurd h2 HKN.out
     ·
      exact ⟨h3, ht', hk, h4, hk⟩
     ·
      exact absurd rfl h1)
    obtain ⟨T, hT⟩ : ∃ T : ByteArray, T = ⟨#[]⟩ := ⟨_, rfl⟩
    rw [← hT] at HWD
    have HTX := Lib.hid hT
    clear hT
    cases hfo : findO names T with
    | some i =>
     have hi5 : i < 5000 := Nat.lt_of_lt_of_le (findO_lt hfo) (by have := HNL.out; omega)
     have HZ := Lib.hid (show findZ names T = (i : Int) by unfold findZ; rw [hfo])
     have hwr : IntKind.u32.wrap (i : Int) = (i : Int) := by rw [IntKind.wrap_u32] <;> omega
     clear hfo
     refine wp_region_held_drew (S := fun V => V.cell? ⟨g, 3, none⟩ = some (.slice AN nN cN)) (by kernel_rfl) ?_ (fun hHeld => ?_)
     ·
      exact c3
     refine wpAnyH_take (i := 0) (oi := ?p272) (v := ?v272) ?a272 (by kernel_rfl) ?b272 ?c272 ?q272 ?y272 hHeld ?z272
     case a272 => (simp only [List.getElem?_toArray, List.getElem?_cons_succ, List.getElem?_cons_zero]; exact rfl)
     case b272 => kernel_rfl
     case c272 => kernel_rfl
     case q272 => exact fun _ _ _ h => h
     case y272 =>
      refine Or.inl ⟨by rfl, ?_⟩
      intro V hSV
      go_simp
      (try with_reducible rfl)
     try simp only [Act.put, List.setIfInBounds_toArray, List.set_cons_zero, List.set_cons_succ]
     refine wpAnyH_take (i := 1) (oi := ?p273) (v := ?v273) ?a273 (by kernel_rfl) ?b273 ?c273 ?q273 ?y273 hHeld ?z273
     case a273 => (simp only [List.getElem?_toArray, List.getElem?_cons_succ, List.getElem?_cons_zero]; exact rfl)
     case b273 => kernel_rfl
     case c273 => kernel_rfl
     case q273 => exact fun _ _ _ h => h
     case y273 =>
      refine Or.inl ⟨by rfl, ?_⟩
      intro V hSV
      go_simp
      (try with_reducible rfl)
     try simp only [Act.put, List.setIfInBounds_toArray, List.set_cons_zero, List.set_cons_succ]
     refine wpAnyH_take (i := 2) (oi := ?p274) (v := ?v274) ?a274 (by kernel_rfl) ?b274 ?c274 ?q274 ?y274 hHeld ?z274
     case a274 => (simp only [List.getElem?_toArray, List.getElem?_cons_succ, List.getElem?_cons_zero]; exact rfl)
     case b274 => kernel_rfl
     case c274 => kernel_rfl
     case q274 => exact fun _ _ _ h => h
     case y274 =>
      refine Or.inl ⟨by rfl, ?_⟩
      intro V hSV
      go_simp
      (try with_reducible rfl)
     try simp only [Act.put, List.setIfInBounds_toArray, List.set_cons_zero, List.set_cons_succ]
     refine wpAnyH_take (i := 3) (oi := ?p275) (v := ?v275) ?a275 (by kernel_rfl) ?b275 ?c275 ?q275 ?y275 hHeld ?z275
     case a275 => (simp only [List.getElem?_toArray, List.getElem?_cons_succ, List.getElem?_cons_zero]; exact rfl)
     case b275 => kernel_rfl
     case c275 => kernel_rfl
     case q275 => exact fun _ _ _ h => h
     case y275 =>
      refine Or.inl ⟨by rfl, ?_⟩
      intro V hSV
      go_simp
      (try with_reducible rfl)
     try simp only [Act.put, List.setIfInBounds_toArray, List.set_cons_zero, List.set_cons_succ]
     refine wpAnyH_take (i := 4) (oi := ?p276) (v := ?v276) ?a276 (by kernel_rfl) ?b276 ?c276 ?q276 ?y276 hHeld ?z276
     case a276 => (simp only [List.getElem?_toArray, List.getElem?_cons_succ, List.getElem?_cons_zero]; exact rfl)
     case b276 => kernel_rfl
     case c276 => kernel_rfl
     case q276 => exact fun _ _ _ h => h
     case y276 =>
      refine Or.inl ⟨by rfl, ?_⟩
      intro V hSV
      go_simp
      (try with_reducible rfl)
     try simp only [Act.put, List.setIfInBounds_toArray, List.set_cons_zero, List.set_cons_succ]
     refine wpAnyH_ready (rs := [5]) (by kernel_rfl) (by simp) ?_
     refine AllReadyH.cons (o := ?od277) ?hod277 (fun K hK => ?kd277) ?md277
     case hod277 => (simp only [List.getElem?_toArray, List.getElem?_cons_succ, List.getElem?_cons_zero]; exact rfl)
     case kd277 =>
      go_simp
      refine (HWD.out 1).mono ?_
      rintro e V ⟨rfl, ht2, _, hb2, hk2⟩
      have HT2 := Lib.hid ht2
      have HB2 := Lib.hid hb2
      have HIX2 := Lib.hid (pIndex_any AN nN cN names T V (Rd.ofOwn (own_only HNU.out HBU.out (by decide) ht2)) (by omega))
      rw [HZ.out] at HIX2
      clear ht2 hb2
      (try dsimp only)
      refine hK.out _ _ ?_ (fun hHeld => ?_)
      ·
       exact HB2.out.cell 3
      clear hK K
      try simp only [Act.put, List.setIfInBounds_toArray, List.set_cons_zero, List.set_cons_succ]
      refine wpAnyH_ready (rs := [6]) (by kernel_rfl) (by simp) ?_
      refine AllReadyH.cons (o := ?od278) ?hod278 (fun K hK => ?kd278) ?md278
      case hod278 => (simp only [List.getElem?_toArray, List.getElem?_cons_succ, List.getElem?_cons_zero]; exact rfl)
      case kd278 =>
       go_simp
       refine HIX2.out.mono ?_
       rintro e V2 ⟨rfl, rfl⟩
       (try dsimp only)
       refine hK.out _ _ ?_ (fun hHeld => ?_)
       ·
        exact HB2.out.cell 3
       clear hK K
       try simp only [Act.put, List.setIfInBounds_toArray, List.set_cons_zero, List.set_cons_succ]
       refine wpAnyH_take (i := 7) (oi := ?p279) (v := ?v279) ?a279 (by kernel_rfl) ?b279 ?c279 ?q279 ?y279 hHeld ?z279
       case a279 => (simp only [List.getElem?_toArray, List.getElem?_cons_succ, List.getElem?_cons_zero]; exact rfl)
       case b279 => kernel_rfl
       case c279 => kernel_rfl
       case q279 => exact fun _ _ _ h => h
       case y279 =>
        refine Or.inl ⟨by rfl, ?_⟩
        intro V hSV
        go_simp
        (try with_reducible rfl)
       try simp only [Act.put, List.setIfInBounds_toArray, List.set_cons_zero, List.set_cons_succ]
       refine wpAnyH_take (i := 8) (oi := ?p280) (v := ?v280) ?a280 (by kernel_rfl) ?b280 ?c280 ?q280 ?y280 hHeld ?z280
       case a280 => (simp only [List.getElem?_toArray, List.getElem?_cons_succ, List.getElem?_cons_zero]; exact rfl)
       case b280 => kernel_rfl
       case c280 => kernel_rfl
       case q280 => exact fun _ _ _ h => h
       case y280 =>
        refine Or.inl ⟨by rfl, ?_⟩
        intro V hSV
        go_simp
        (try with_reducible rfl)
       try simp only [Act.put, List.setIfInBounds_toArray, List.set_cons_zero, List.set_cons_succ]
       refine wpAnyH_take (i := 9) (oi := ?p281) (v := ?v281) ?a281 (by kernel_rfl) ?b281 ?c281 ?q281 ?y281 hHeld ?z281
       case a281 => (simp only [List.getElem?_toArray, List.getElem?_cons_succ, List.getElem?_cons_zero]; exact rfl)
       case b281 => kernel_rfl
       case c281 => kernel_rfl
       case q281 => exact fun _ _ _ h => h
       case y281 =>
        refine Or.inl ⟨by rfl, ?_⟩
        intro V hSV
        go_simp
        (try with_reducible rfl)
       try simp only [Act.put, List.setIfInBounds_toArray, List.set_cons_zero, List.set_cons_succ]
       refine wpAnyH_done (by kernel_rfl) ?_ _
       clear hHeld
       repeat (first | go_skip | go_guarded | go_step)
       go_ret
       exact ⟨i, by first | rfl | simp, by omega, mkSt (x := goE _ (nameE sz)) hg HBU.out HB2.out HWU.out HNU.out HVU.out HNE.out hk2 hW hN hV HT2.out (by rw [show goE (Except.ok (ws.drop k, names, vars)) (nameE sz) = .error (5, placeE sz (ws.drop k)) by unfold goE; dsimp only; rw [HNM.out]]; exact ⟨rfl, rfl, by omega⟩), (fun s u s2 h h2 => by cases h; rw [HNM.out] at h2; cases h2), HKU.out.trans (Kp.only HT2.out hg HBU.out.lt)⟩
      exact AllReadyH.nil
     exact AllReadyH.nil
    | none =>
     have HZ := Lib.hid (show findZ names T = -1 by unfold findZ; rw [hfo])
     clear hfo
     refine wp_region_held_drew (S := fun V => V.cell? ⟨g, 3, none⟩ = some (.slice AN nN cN)) (by kernel_rfl) ?_ (fun hHeld => ?_)
     ·
      exact c3
     refine wpAnyH_take (i := 0) (oi := ?p282) (v := ?v282) ?a282 (by kernel_rfl) ?b282 ?c282 ?q282 ?y282 hHeld ?z282
     case a282 => (simp only [List.getElem?_toArray, List.getElem?_cons_succ, List.getElem?_cons_zero]; exact rfl)
     case b282 => kernel_rfl
     case c282 => kernel_rfl
     case q282 => exact fun _ _ _ h => h
     case y282 =>
      refine Or.inl ⟨by rfl, ?_⟩
      intro V hSV
      go_simp
      (try with_reducible rfl)
     try simp only [Act.put, List.setIfInBounds_toArray, List.set_cons_zero, List.set_cons_succ]
     refine wpAnyH_take (i := 1) (oi := ?p283) (v := ?v283) ?a283 (by kernel_rfl) ?b283 ?c283 ?q283 ?y283 hHeld ?z283
     case a283 => (simp only [List.getElem?_toArray, List.getElem?_cons_succ, List.getElem?_cons_zero]; exact rfl)
     case b283 => kernel_rfl
     case c283 => kernel_rfl
     case q283 => exact fun _ _ _ h => h
     case y283 =>
      refine Or.inl ⟨by rfl, ?_⟩
      intro V hSV
      go_simp
      (try with_reducible rfl)
     try simp only [Act.put, List.setIfInBounds_toArray, List.set_cons_zero, List.set_cons_succ]
     refine wpAnyH_take (i := 2) (oi := ?p284) (v := ?v284) ?a284 (by kernel_rfl) ?b284 ?c284 ?q284 ?y284 hHeld ?z284
     case a284 => (simp only [List.getElem?_toArray, List.getElem?_cons_succ, List.getElem?_cons_zero]; exact rfl)
     case b284 => kernel_rfl
     case c284 => kernel_rfl
     case q284 => exact fun _ _ _ h => h
     case y284 =>
      refine Or.inl ⟨by rfl, ?_⟩
      intro V hSV
      go_simp
      (try with_reducible rfl)
     try simp only [Act.put, List.setIfInBounds_toArray, List.set_cons_zero, List.set_cons_succ]
     refine wpAnyH_take (i := 3) (oi := ?p285) (v := ?v285) ?a285 (by kernel_rfl) ?b285 ?c285 ?q285 ?y285 hHeld ?z285
     case a285 => (simp only [List.getElem?_toArray, List.getElem?_cons_succ, List.getElem?_cons_zero]; exact rfl)
     case b285 => kernel_rfl
     case c285 => kernel_rfl
     case q285 => exact fun _ _ _ h => h
     case y285 =>
      refine Or.inl ⟨by rfl, ?_⟩
      intro V hSV
      go_simp
      (try with_reducible rfl)
     try simp only [Act.put, List.setIfInBounds_toArray, List.set_cons_zero, List.set_cons_succ]
     refine wpAnyH_take (i := 4) (oi := ?p286) (v := ?v286) ?a286 (by kernel_rfl) ?b286 ?c286 ?q286 ?y286 hHeld ?z286
     case a286 => (simp only [List.getElem?_toArray, List.getElem?_cons_succ, List.getElem?_cons_zero]; exact rfl)
     case b286 => kernel_rfl
     case c286 => kernel_rfl
     case q286 => exact fun _ _ _ h => h
     case y286 =>
      refine Or.inl ⟨by rfl, ?_⟩
      intro V hSV
      go_simp
      (try with_reducible rfl)
     try simp only [Act.put, List.setIfInBounds_toArray, List.set_cons_zero, List.set_cons_succ]
     refine wpAnyH_ready (rs := [5]) (by kernel_rfl) (by simp) ?_
     refine AllReadyH.cons (o := ?od287) ?hod287 (fun K hK => ?kd287) ?md287
     case hod287 => (simp only [List.getElem?_toArray, List.getElem?_cons_succ, List.getElem?_cons_zero]; exact rfl)
     case kd287 =>
      go_simp
      refine (HWD.out 1).mono ?_
      rintro e V ⟨rfl, ht2, _, hb2, hk2⟩
      have HT2 := Lib.hid ht2
      have HB2 := Lib.hid hb2
      have HIX2 := Lib.hid (pIndex_any AN nN cN names T V (Rd.ofOwn (own_only HNU.out HBU.out (by decide) ht2)) (by omega))
      rw [HZ.out] at HIX2
      clear ht2 hb2
      (try dsimp only)
      refine hK.out _ _ ?_ (fun hHeld => ?_)
      ·
       exact HB2.out.cell 3
      clear hK K
      try simp only [Act.put, List.setIfInBounds_toArray, List.set_cons_zero, List.set_cons_succ]
      refine wpAnyH_ready (rs := [6]) (by kernel_rfl) (by simp) ?_
      refine AllReadyH.cons (o := ?od288) ?hod288 (fun K hK => ?kd288) ?md288
      case hod288 => (simp only [List.getElem?_toArray, List.getElem?_cons_succ, List.getElem?_cons_zero]; exact rfl)
      case kd288 =>
       go_simp
       refine HIX2.out.mono ?_
       rintro e V2 ⟨rfl, rfl⟩
       (try dsimp only)
       refine hK.out _ _ ?_ (fun hHeld => ?_)
       ·
        exact HB2.out.cell 3
       clear hK K
       try simp only [Act.put, List.setIfInBounds_toArray, List.set_cons_zero, List.set_cons_succ]
       refine wpAnyH_take (i := 7) (oi := ?p289) (v := ?v289) ?a289 (by kernel_rfl) ?b289 ?c289 ?q289 ?y289 hHeld ?z289
       case a289 => (simp only [List.getElem?_toArray, List.getElem?_cons_succ, List.getElem?_cons_zero]; exact rfl)
       case b289 => kernel_rfl
       case c289 => kernel_rfl
       case q289 => exact fun _ _ _ h => h
       case y289 =>
        refine Or.inl ⟨by rfl, ?_⟩
        intro V hSV
        go_simp
        (try with_reducible rfl)
       try simp only [Act.put, List.setIfInBounds_toArray, List.set_cons_zero, List.set_cons_succ]
       refine wpAnyH_take (i := 8) (oi := ?p290) (v := ?v290) ?a290 (by kernel_rfl) ?b290 ?c290 ?q290 ?y290 hHeld ?z290
       case a290 => (simp only [List.getElem?_toArray, List.getElem?_cons_succ, List.getElem?_cons_zero]; exact rfl)
       case b290 => kernel_rfl
       case c290 => kernel_rfl
       case q290 => exact fun _ _ _ h => h
       case y290 =>
        refine Or.inl ⟨by rfl, ?_⟩
        intro V hSV
        go_simp
        (try with_reducible rfl)
       try simp only [Act.put, List.setIfInBounds_toArray, List.set_cons_zero, List.set_cons_succ]
       refine wpAnyH_take (i := 9) (oi := ?p291) (v := ?v291) ?a291 (by kernel_rfl) ?b291 ?c291 ?q291 ?y291 hHeld ?z291
       case a291 => (simp only [List.getElem?_toArray, List.getElem?_cons_succ, List.getElem?_cons_zero]; exact rfl)
       case b291 => kernel_rfl
       case c291 => kernel_rfl
       case q291 => exact fun _ _ _ h => h
       case y291 =>
        refine Or.inl ⟨by rfl, ?_⟩
        intro V hSV
        go_simp
        (try with_reducible rfl)
       try simp only [Act.put, List.setIfInBounds_toArray, List.set_cons_zero, List.set_cons_succ]
       refine wpAnyH_done (by kernel_rfl) ?_ _
       clear hHeld
       repeat (first | go_skip | go_guarded | go_step)
       go_ret
       exact ⟨0, by first | rfl | simp, by omega, mkSt (x := goE _ (nameE sz)) hg HBU.out HB2.out HWU.out HNU.out HVU.out HNE.out hk2 hW hN hV HT2.out (by rw [show goE (Except.ok (ws.drop k, names, vars)) (nameE sz) = .error (5, placeE sz (ws.drop k)) by unfold goE; dsimp only; rw [HNM.out]]; exact ⟨rfl, rfl, by omega⟩), (fun s u s2 h h2 => by cases h; rw [HNM.out] at h2; cases h2), HKU.out.trans (Kp.only HT2.out hg HBU.out.lt)⟩
      exact AllReadyH.nil
     exact AllReadyH.nil
   exact AllReadyH.nil
end Go.Proofs.YtoigpbajefkpoaaGreatDoor

