/- Texts, packed: StI -/
import Derived.Test.YtfmghkplafploaaGreatPzF
set_option linter.unusedVariables false
set_option linter.unusedSimpArgs false
namespace Go.Proofs.YtfmghkplafploaaGreat
open Go Go.RowKit

/-- What has been seen. -/
structure SeenT (C : List Cl) (a : UInt32) (S : List UInt32) : Prop where
  nodup : S.Nodup
  start : a ∈ S
  way : ∀ s ∈ S, Way (edL C) a s
  mem : ∀ s ∈ S, s ∈ a :: prL C
theorem SeenT.len {C : List Cl} {a : UInt32} {S : List UInt32} (h : SeenT C a S) : S.length ≤ (prL C).length + 1 := by
  have := nodup_len h.nodup h.mem
  rwa [List.length_cons] at this
theorem SeenT.more {C : List Cl} {a : UInt32} {S : List UInt32} (h : SeenT C a S) {e : Ed} (he : e ∈ edL C) (h1 : e.1 ∈ S) (h2 : e.2.1 ∉ S) : SeenT C a (S ++ [e.2.1]) := by
  refine ⟨List.nodup_append.2 ⟨h.nodup, by simp, fun x hx y hy => ?_⟩, List.mem_append_left _ h.start, fun s hs => ?_, fun s hs => ?_⟩
  · rw [List.mem_singleton] at hy
    subst hy
    exact fun e => h2 (e ▸ hx)
  · rcases List.mem_append.1 hs with hs | hs
    · exact h.way s hs
    · rw [List.mem_singleton] at hs
      subst hs
      exact (h.way _ h1).step he rfl
  · rcases List.mem_append.1 hs with hs | hs
    · exact h.mem s hs
    · rw [List.mem_singleton] at hs
      subst hs
      exact List.mem_cons_of_mem _ (edge_body he)
theorem prL_len {C : List Cl} (hk : ∀ x ∈ C, x.2.length ≤ 1000000) : (prL C).length ≤ C.length * 1000001 := by
  induction C with
  | nil => simp [prL]
  | cons x C ih =>
    have h1 := ih fun y hy => hk y (by simp [hy])
    have h2 := hk x (by simp)
    unfold prL at *
    rw [List.flatMap_cons, List.length_append, List.length_cons, Nat.add_mul]
    have : (prC x).length = x.2.length + 1 := by unfold prC; simp
    omega
/-- One node is being looked at. -/
structure Look (C : List Cl) (a b s : UInt32) (i : Nat) (vis : List Ed) (S : List UInt32) : Prop where
  seen : SeenT C a S
  at_ : S[i]? = some s
  no : ∀ x ∈ S.take (i + 1), x ≠ b
  closed : ∀ e ∈ edL C, e.1 ∈ S.take i → e.2.1 ∈ S
  vis : ∀ e ∈ vis, e.1 = s → e.2.1 ∈ S
section
variable {C : List Cl} {a b s : UInt32} {i : Nat} {vis : List Ed} {S : List UInt32}
theorem Look.lt (h : Look C a b s i vis S) : i < S.length := (List.getElem?_eq_some_iff.1 h.at_).1
theorem Look.mem (h : Look C a b s i vis S) : s ∈ S := List.mem_of_getElem? h.at_
theorem Look.see (h : Look C a b s i vis S) {e : Ed} (he : e.1 = s → e.2.1 ∈ S) : Look C a b s i (vis ++ [e]) S :=
  ⟨h.seen, h.at_, h.no, h.closed, fun e' he' => by
    rcases List.mem_append.1 he' with h1 | h1
    · exact h.vis e' h1
    · rw [List.mem_singleton] at h1
      subst h1
      exact he⟩
theorem Look.others (h : Look C a b s i vis S) {l : List Ed} (hl : ∀ e ∈ l, e.1 ≠ s) : Look C a b s i (vis ++ l) S :=
  ⟨h.seen, h.at_, h.no, h.closed, fun e' he' => by
    rcases List.mem_append.1 he' with h1 | h1
    · exact h.vis e' h1
    · exact fun e => absurd e (hl e' h1)⟩
theorem Look.grow (h : Look C a b s i vis S) {e : Ed} (he : e ∈ edL C) (h1 : e.1 = s) (h2 : e.2.1 ∉ S) : Look C a b s i (vis ++ [e]) (S ++ [e.2.1]) := by
  have hl := h.lt
  have ht : ∀ k, k ≤ S.length → (S ++ [e.2.1]).take k = S.take k := fun k hk => List.take_append_of_le_length hk
  refine ⟨h.seen.more he (h1 ▸ h.mem) h2, ?_, ?_, fun d hd hm => ?_, fun d hd hs => ?_⟩
  · rw [List.getElem?_append_left hl]; exact h.at_
  · rw [ht _ (by omega)]; exact h.no
  · rw [ht _ (by omega)] at hm
    exact List.mem_append_left _ (h.closed d hd hm)
  · rcases List.mem_append.1 hd with hd | hd
    · exact List.mem_append_left _ (h.vis d hd hs)
    · rw [List.mem_singleton] at hd
      subst hd
      exact List.mem_append_right _ (by simp)
end
set_option maxRecDepth 100000 in
set_option maxHeartbeats 8000000 in
theorem leads_any (A : Option Addr) (n c : Nat) (Q : List ClA) (C : List Cl) (a b : UInt32) (w : World) (h : RdCs w w.heap.size A n Q C) (hS : Slim C) (hn : n ≤ 100000) :
    Calls Tryz.prog 30 #[.slice A n c, nv a, nv b] w fun e w' => ∃ bb : Bool, e = .returned (.bool bb) ∧ (bb = true ↔ Way (edL C) a b) ∧ Below w.heap.size w w' := by
  obtain ⟨M, hM⟩ : ∃ M, M = (prL C).length + 1 := ⟨_, rfl⟩
  have hMb : M ≤ 500000000000 := by
    have h1 := prL_len fun x hx => (hS x hx).2.1
    rw [h.lenC] at h1
    have : n * 1000001 ≤ 100000 * 1000001 := Nat.mul_le_mul_right _ hn
    omega
  have HC := Lib.hid h
  have HSL := Lib.hid hS
  have HM := Lib.hid hM
  obtain ⟨W0, hW0, hO0, hB0⟩ : ∃ W0, W0 = w.alloc (.cells #[nv a] 32) ∧ OwH W0 w.heap.size (some ⟨w.heap.size, 0, none⟩) 1 1 [a] ∧ Below w.heap.size w W0 :=
    ⟨_, rfl, World.ownsRow_lit (base := w.heap.size) w #[nv a] 1 (Nat.le_refl _) (by simp [maxLen]) rfl, (Below.refl _ _).alloc (Nat.le_refl _) _⟩
  have HW0 := Lib.hid hW0
  have HO0 := Lib.hid hO0
  have HB0 := Lib.hid hB0
  clear h hS hM hW0 hO0 hB0
  go_enter Tryz.func30, Tryz.ntmps30
  go_upto_region 2 with (fail)
  rw [← HW0.out]
  repeat (first | go_skip | go_guarded | go_step)
  go_loopw [7, 8] (fun sv q wr => ∃ (i m : Nat) (As : Option Addr) (cs : Nat) (S : List UInt32), i ≤ m ∧ sv = .slice As m cs ∧ q = .int .i64 (i : Int) ∧ OwH wr w.heap.size As cs m S ∧ SeenT C a S ∧ (∀ x ∈ S.take i, x ≠ b) ∧ (∀ e ∈ edL C, e.1 ∈ S.take i → e.2.1 ∈ S) ∧ Below w.heap.size w wr) (fun _ q _ => M - (intOf q).toNat)
  case atStart => exact ⟨0, 1, _, 1, [a], by omega, rfl, rfl, HO0.out, ⟨by simp, by simp, (fun s hs => by rw [List.mem_singleton] at hs; subst hs; exact .refl), (fun s hs => by rw [List.mem_singleton] at hs; subst hs; simp)⟩, by simp, by simp, HB0.out⟩
  case round =>
    rename World => wr
    obtain ⟨i, m, As, cs, S, hi, rfl, rfl, ho, hseen, hno, hcl, hbr⟩ := hrel
    have hlen : S.length = m := rdU_len ho.rd
    have hmM : m ≤ M := by rw [HM.out, ← hlen]; exact hseen.len
    have HO := Lib.hid ho
    have HSEEN := Lib.hid hseen
    have HNO := Lib.hid hno
    have HCL := Lib.hid hcl
    have HBR := Lib.hid hbr
    have HLEN := Lib.hid hlen
    clear ho hseen hno hcl hbr hlen
    by_cases hlt : i < m
    · have hci : (i : Int) < (m : Int) := by omega
      obtain ⟨b5, o5, s, hA5, hb5, hs5, hc5⟩ := rdU_at HO.out.rd hlt
      subst hA5
      have HS5 := Lib.hid hs5
      clear hs5 hb5
      by_cases hsb : s = b
      · have hd : ((s.toNat : Int) == (b.toNat : Int)) = true := by subst hsb; simp
        have HSB := Lib.hid hsb
        clear hsb
        repeat (first | go_skip | go_guarded | go_step)
        go_ret
        exact ⟨true, rfl, ⟨fun _ => HSB.out ▸ HSEEN.out.way s (List.mem_of_getElem? HS5.out), fun _ => rfl⟩, HBR.out⟩
      · have hd := u32ne' hsb
        have HLOOK := Lib.hid (show Look C a b s i [] S from ⟨HSEEN.out, HS5.out, fun x hx => by
          rw [List.take_add_one, HS5.out] at hx
          rcases List.mem_append.1 hx with hx | hx
          · exact HNO.out x hx
          · simp only [Option.toList_some, List.mem_singleton] at hx
            subst hx
            exact hsb, HCL.out, fun e he => by cases he⟩)
        clear hsb
        repeat (first | go_skip | go_guarded | go_step)
        clear hc5
        go_loopw [7, 9] (fun sv q w3 => ∃ (k m : Nat) (As : Option Addr) (cs : Nat) (S : List UInt32), k ≤ n ∧ sv = .slice As m cs ∧ q = .int .i64 (k : Int) ∧ OwH w3 w.heap.size As cs m S ∧ Look C a b s i (edL (C.take k)) S ∧ Below w.heap.size w w3) (fun _ q _ => n - (intOf q).toNat)
        case atStart => exact ⟨0, m, _, cs, S, by omega, rfl, rfl, HO.out, HLOOK.out, HBR.out⟩
        case round =>
          clear HO HSEEN HNO HCL HBR HLEN HS5 HLOOK hd hmM hci
          rename World => w3
          obtain ⟨k, m, As, cs, S, hk, rfl, rfl, ho, hlook, hb3⟩ := hrel
          have HO := Lib.hid ho
          have HLOOK := Lib.hid hlook
          have HB3 := Lib.hid hb3
          clear ho hlook hb3
          by_cases hltk : k < n
          · have hki : (k : Int) < (n : Int) := by omega
            obtain ⟨bb, o, p, l, L, A0, n0, c0, A1, n1, c1, R, hA, hb, hx, hq, hd0, hd1, hd2, hrt, hrl⟩ := HC.out.at_ hltk
            have HD := Lib.hid (show ∀ V, Below w.heap.size w V → V.cell? ⟨bb, o + k * 3, none⟩ = some (nv p) ∧ V.cell? ⟨bb, o + k * 3 + 2, none⟩ = some (.slice A1 n1 c1) from fun V hV => ⟨(hV.cell (p := ⟨bb, o + k * 3, none⟩) hb).trans hd0, (hV.cell (p := ⟨bb, o + k * 3 + 2, none⟩) hb).trans hd2⟩)
            have hn1 : n1 ≤ 1000000 := by have := (HSL.out _ (List.mem_of_getElem? hx)).2.1; have := hrl.lenL; dsimp only at *; omega
            have HX := Lib.hid hx
            have HRL := Lib.hid hrl
            have HES := Lib.hid (edL_step hx)
            subst hA
            clear hx hq hrt hrl hd0 hd1 hd2 hb
            repeat (first | go_skip | go_guarded | go_step)
            go_loopw [7, 10] (fun sv q w4 => ∃ (j m : Nat) (As : Option Addr) (cs : Nat) (S : List UInt32), j ≤ n1 ∧ sv = .slice As m cs ∧ q = .int .i64 (j : Int) ∧ OwH w4 w.heap.size As cs m S ∧ Look C a b s i (edL (C.take k) ++ (edgC ((p, l), L)).take j) S ∧ Below w.heap.size w w4) (fun _ q _ => n1 - (intOf q).toNat)
            case atStart => exact ⟨0, m, As, cs, S, by omega, rfl, rfl, HO.out, by rw [List.take_zero, List.append_nil]; exact HLOOK.out, HB3.out⟩
            case round =>
              clear HO HLOOK HB3
              rename World => w4
              obtain ⟨j, m, As, cs, S, hj, rfl, rfl, ho, hlook, hb4⟩ := hrel
              have hlen : S.length = m := rdU_len ho.rd
              have hmM : m ≤ M := by rw [HM.out, ← hlen]; exact hlook.seen.len
              have him : i < m := by rw [← hlen]; exact hlook.lt
              have HO := Lib.hid ho
              have HLOOK := Lib.hid hlook
              have HB4 := Lib.hid hb4
              have HLEN := Lib.hid hlen
              obtain ⟨e0, e2⟩ := HD.out w4 hb4
              clear ho hlook hb4 hlen
              by_cases hltj : j < n1
              · have hji : (j : Int) < (n1 : Int) := by omega
                have hii : (i : Int) < (m : Int) := by omega
                obtain ⟨b5, o5, s', hA5, hb5, hs5, hc5⟩ := rdU_at HO.out.rd him
                have hss : s' = s := by rw [HLOOK.out.at_] at hs5; cases hs5; rfl
                subst hss
                subst hA5
                have q0 := fun q => (HD.out (w4.drewN q) (belowDrewQ HB4.out q)).1
                have q2 := fun q => (HD.out (w4.drewN q) (belowDrewQ HB4.out q)).2
                have q5 : ∀ q, (w4.drewN q).cell? ⟨b5, o5 + i, none⟩ = some (nv s') := fun q => ((belowDrewQ (Below.refl w4.heap.size w4) q).cell (p := ⟨b5, o5 + i, none⟩) hb5).trans hc5
                clear hs5 e0 e2 hc5 hb5
                by_cases hps : p = s'
                · have hd : ((p.toNat : Int) == (s'.toNat : Int)) = true := by subst hps; simp
                  have HPS := Lib.hid hps
                  clear hps
                  obtain ⟨b3, o3, g3, p3, l3, Ai, nj, ci, hA1, hb3, hx3, hr3, he0, he1, he2, hrow3⟩ := HRL.out.at2 hltj
                  have HF1 := Lib.hid (show ∀ V, Below w.heap.size w V → V.cell? ⟨b3, o3 + j * 3 + 1, none⟩ = some (nv p3) from fun V hV => (hV.cell (p := ⟨b3, o3 + j * 3 + 1, none⟩) hb3).trans he1)
                  have HX3 := Lib.hid (edC_at (x := ((p, l), L)) hx3)
                  have HE := Lib.hid (show (p, p3, g3) ∈ edL C from edL_mem HX.out hx3)
                  subst hA1
                  clear hx3 hr3 he0 he1 he2 hrow3 hb3
                  go_upto_region 11 with (fail)
                  go_quiet (fail)
                  go_upto_region 13 with (fail)
                  obtain ⟨V, hV⟩ : ∃ V, V = w4.drewN nq := ⟨_, rfl⟩
                  rw [← hV]
                  have HV := Lib.hid (show Below w4.heap.size w4 V by rw [hV]; exact belowDrewQ (Below.refl _ _) nq)
                  have HBV := Lib.hid (HB4.out.trans (HV.out.mono HB4.out.size))
                  have HOV := Lib.hid (show OwH V w.heap.size (some ⟨b5, o5, none⟩) cs m S from ownBelow HO.out HV.out (Nat.le_refl _))
                  have v2 := (HD.out V HBV.out).2
                  have v1 := HF1.out V HBV.out
                  clear hV q0 q2 q5 hd
                  repeat (first | go_skip | go_guarded | go_step)
                  clear v1 v2
                  go_loopw [12, 13] (fun bv q w6 => ∃ (t : Nat) (b2 : Bool), t ≤ m ∧ bv = .bool b2 ∧ q = .int .i64 (t : Int) ∧ (b2 = true ↔ p3 ∈ S.take t) ∧ Below V.heap.size V w6) (fun _ q _ => m - (intOf q).toNat)
                  case atStart => exact ⟨0, false, by omega, rfl, rfl, by simp, Below.refl _ _⟩
                  case round =>
                    rename World => w6
                    obtain ⟨t, b2, ht, rfl, rfl, hb2, hb6⟩ := hrel
                    have HB2 := Lib.hid hb2
                    have HB6 := Lib.hid hb6
                    clear hb2 hb6
                    by_cases hltt : t < m
                    · have hti : (t : Int) < (m : Int) := by omega
                      obtain ⟨b7, o7, x, hA7, hb7, hx7, hc7⟩ := rdU_at HOV.out.rd hltt
                      cases hA7
                      have k7 := (HB6.out.cell (p := ⟨b5, o5 + t, none⟩) hb7).trans hc7
                      have HSTEP := Lib.hid (show ∀ b3 : Bool, (b3 = true ↔ (b2 = true ∨ x = p3)) → (b3 = true ↔ p3 ∈ S.take (t + 1)) from fun b3 hb3 => by
                        rw [hb3, HB2.out, List.take_add_one, hx7, List.mem_append]
                        simp only [Option.toList_some, List.mem_singleton, eq_comm])
                      clear hx7 hc7 hb7
                      cases b2 with
                      | true =>
                        repeat (first | go_skip | go_guarded | go_step)
                        go_roundw
                        case rel => exact ⟨t + 1, true, by omega, rfl, by go_num, HSTEP.out true (by simp), HB6.out⟩
                        case measure => simp [intOf]; omega
                      | false =>
                        by_cases hp : x = p3
                        · have hd : ((x.toNat : Int) == (p3.toNat : Int)) = true := by subst hp; simp
                          have HP := Lib.hid hp
                          clear hp
                          repeat (first | go_skip | go_guarded | go_step)
                          go_roundw
                          case rel => exact ⟨t + 1, true, by omega, rfl, by go_num, HSTEP.out true (by simp [HP.out]), HB6.out⟩
                          case measure => simp [intOf]; omega
                        · have hd := u32ne' hp
                          have HP := Lib.hid hp
                          clear hp
                          repeat (first | go_skip | go_guarded | go_step)
                          go_roundw
                          case rel => exact ⟨t + 1, false, by omega, rfl, by go_num, HSTEP.out false (by simp [HP.out]), HB6.out⟩
                          case measure => simp [intOf]; omega
                    · obtain rfl : m = t := by omega
                      have hti : ¬ (m : Int) < (m : Int) := by omega
                      have hiff : b2 = true ↔ p3 ∈ S := by
                        have h := HB2.out
                        rwa [List.take_of_length_le (by rw [HLEN.out]; exact Nat.le_refl _)] at h
                      have HIFF := Lib.hid hiff
                      have HO6 := Lib.hid (show OwH w6 w.heap.size (some ⟨b5, o5, none⟩) cs m S from ownBelow HOV.out HB6.out (Nat.le_refl _))
                      have HBW6 := Lib.hid (HBV.out.trans (HB6.out.mono HBV.out.size))
                      clear hiff
                      cases b2 with
                      | true =>
                        repeat (first | go_skip | go_guarded | go_step)
                        go_roundw
                        case rel => exact ⟨j + 1, m, _, cs, S, by omega, rfl, by go_num, HO6.out, by
                          rw [HX3.out, ← List.append_assoc]
                          exact HLOOK.out.see fun _ => HIFF.out.1 rfl, HBW6.out⟩
                        case measure => simp [intOf]; omega
                      | false =>
                        have hni : p3 ∉ S := fun h => by
                          have := HIFF.out.2 h
                          cases this
                        have HNI := Lib.hid hni
                        have hZ : Below w6.heap.size w6 (w6.alloc (.cells #[nv p3] 32)) := (Below.refl _ _).alloc (Nat.le_refl _) _
                        have HOZ := Lib.hid (show OwH (w6.alloc (.cells #[nv p3] 32)) w.heap.size (some ⟨b5, o5, none⟩) cs m S from ownBelow HO6.out hZ (Nat.le_refl _))
                        have HBZ := Lib.hid (HBW6.out.trans (hZ.mono HBW6.out.size))
                        have HLIT := Lib.hid (litU_rd w6 p3)
                        clear hni hZ
                        repeat (first
                          | (at_builtin
                             refine appH _ rfl (.tmp 84) (.tmp 86) rfl w.heap.size (some ⟨b5, o5, none⟩) cs m S rfl HOZ.out _ _ 1 1 [p3] rfl HLIT.out (by omega) HBZ.out.size ?_
                             intro A9 c9 w9 ho9 ht9
                             have HO9 := Lib.hid ho9
                             have HB9 := Lib.hid (HBZ.out.trans (ht9.below (B := w.heap.size) (fun y _ e => (HOZ.out.low e).1) HBZ.out.size))
                             clear ho9 ht9)
                          | go_skip | go_guarded | go_step)
                        go_roundw
                        case rel => exact ⟨j + 1, m + 1, A9, c9, S ++ [p3], by omega, rfl, by go_num, HO9.out, by
                          rw [HX3.out, ← List.append_assoc]
                          exact HLOOK.out.grow HE.out HPS.out HNI.out, HB9.out⟩
                        case measure => simp [intOf]; omega
                · have hd := u32ne' hps
                  have HPS := Lib.hid hps
                  clear hps
                  go_upto_region 11 with (fail)
                  go_quiet (fail)
                  repeat (first | go_skip | go_guarded | go_step)
                  have hb9 := belowDrewQ (Below.refl w4.heap.size w4) nq
                  go_roundw
                  case rel => exact ⟨k + 1, m, _, cs, S, by omega, rfl, by go_num, ownBelow HO.out hb9 (Nat.le_refl _), by
                    rw [HES.out]
                    have h := HLOOK.out
                    refine ⟨h.seen, h.at_, h.no, h.closed, fun e he hs => ?_⟩
                    rcases List.mem_append.1 he with he | he
                    · exact h.vis e (List.mem_append_left _ he) hs
                    · obtain ⟨y, _, rfl⟩ := List.mem_map.1 he
                      exact absurd hs HPS.out, HB4.out.trans (hb9.mono HB4.out.size)⟩
                  case measure => simp [intOf]; omega
              · obtain rfl : n1 = j := by omega
                have hji : ¬ (n1 : Int) < (n1 : Int) := by omega
                have q2 := fun q => (HD.out (w4.drewN q) (belowDrewQ HB4.out q)).2
                clear e0 e2
                go_upto_region 11 with (fail)
                go_quiet (fail)
                repeat (first | go_skip | go_guarded | go_step)
                have hb9 := belowDrewQ (Below.refl w4.heap.size w4) nq
                go_roundw
                case rel => exact ⟨k + 1, m, As, cs, S, by omega, rfl, by go_num, ownBelow HO.out hb9 (Nat.le_refl _), by
                  rw [HES.out]
                  have h := HLOOK.out
                  rwa [List.take_of_length_le (l := edgC ((p, l), L)) (by unfold edgC; rw [List.length_map, HRL.out.lenL]; exact Nat.le_refl _)] at h, HB4.out.trans (hb9.mono HB4.out.size)⟩
                case measure => simp [intOf]; omega
          · obtain rfl : n = k := by omega
            have hki : ¬ (n : Int) < (n : Int) := by omega
            have hlk := HLOOK.out
            rw [List.take_of_length_le (by rw [HC.out.lenC]; exact Nat.le_refl _)] at hlk
            have hlen : S.length = m := rdU_len HO.out.rd
            have hmM : m ≤ M := by rw [HM.out, ← hlen]; exact hlk.seen.len
            have him : i < m := by rw [← hlen]; exact hlk.lt
            have HLK := Lib.hid hlk
            clear hlk hlen
            repeat (first | go_skip | go_guarded | go_step)
            go_roundw
            case rel => exact ⟨i + 1, m, As, cs, S, by omega, rfl, by go_num, HO.out, HLK.out.seen, HLK.out.no, fun e he hm => by
              rw [List.take_add_one, HLK.out.at_] at hm
              rcases List.mem_append.1 hm with hm | hm
              · exact HLK.out.closed e he hm
              · simp only [Option.toList_some, List.mem_singleton] at hm
                exact HLK.out.vis e he hm, HB3.out⟩
            case measure => simp [intOf]; omega
    · obtain rfl : m = i := by omega
      have hci : ¬ (m : Int) < (m : Int) := by omega
      repeat (first | go_skip | go_guarded | go_step)
      go_ret
      have hfull : S.take m = S := List.take_of_length_le (by rw [HLEN.out]; exact Nat.le_refl _)
      have hno := HNO.out
      have hcl := HCL.out
      rw [hfull] at hno hcl
      exact ⟨false, rfl, ⟨fun h => by (cases h), fun h => absurd rfl (hno b (Way.closed h HSEEN.out.start hcl))⟩, HBR.out⟩
end Go.Proofs.YtfmghkplafploaaGreat

