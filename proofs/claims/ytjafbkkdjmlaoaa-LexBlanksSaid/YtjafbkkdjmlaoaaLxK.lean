/- Layer 7 (lex): LexBlanks: blanks ahead, behind and between turn nothing. From LexOk. -/
import Derived.Test.YtjafbkkdjmlaoaaLxL
import Derived.ChangeMaps
set_option linter.unusedVariables false
set_option linter.unusedSimpArgs false
namespace Go.Proofs.Ytjafbkkdjmlaoaa.lexBlanks
open Go Go.RowKit

theorem chunks_le : ∀ l : List Nat, (l.flatMap chunk).length ≤ 11 * l.length
  | [] => by simp
  | i :: l => by
    have h1 := (chunk_len i).2
    have h2 := chunks_le l
    rw [List.flatMap_cons, List.length_append, List.length_cons]
    omega
theorem texts_shift (d : Nat) (l : List Wd) : texts (l.map fun x => (x.1, x.2.1, x.2.2 + d)) = texts l := by
  unfold texts
  rw [List.map_map]
  rfl
theorem lexG_move (d : Nat) (l : List UInt8) : texts (lexG d l).1 = texts (lexG 0 l).1 ∧ ((lexG d l).2 = none ↔ (lexG 0 l).2 = none) := by
  have h := lexG_shift d 0 l
  rw [Nat.zero_add] at h
  rw [h]
  refine ⟨texts_shift d _, ?_⟩
  cases (lexG 0 l).2 <;> simp
theorem blanks {la lb S : List UInt8} {is : List Nat} {ws1 ws2 ws3 : List Wd} {y1 z1 y2 z2 y3 z3 : Nat} (hS : S = is.flatMap chunk) (hla : la.length ≤ 2048) (hlb : lb.length ≤ 2048) (hSl : S.length ≤ 1100)
    (h1 : (ws1, y1, z1) = wordsL la) (h2 : (ws2, y2, z2) = wordsL lb) (h3 : (ws3, y3, z3) = wordsL (S ++ (la ++ 10 :: (S ++ (lb ++ S))))) :
    (z1 = 5 ∧ z3 = 5) ∨ (z1 = 0 ∧ z2 = 5 ∧ z3 = 5) ∨ (z1 = 0 ∧ z2 = 0 ∧ z3 = 0 ∧ texts ws3 = texts ws1 ++ texts ws2) := by
  have hl3 : (S ++ (la ++ 10 :: (S ++ (lb ++ S)))).length ≤ 65536 := by simp only [List.length_append, List.length_cons]; omega
  have hsh : shutBl S := by rw [hS]; exact chunks_shut is
  have e3 : lexG 0 (S ++ (la ++ 10 :: (S ++ (lb ++ S)))) = match lexG S.length la with
      | (ws, none) => (ws ++ (lexG (S.length + la.length + 1 + S.length) lb).1, (lexG (S.length + la.length + 1 + S.length) lb).2)
      | (ws, some k) => (ws, some k) := by
    rw [lexG_shut hsh, lexG_nl, Nat.zero_add, lexG_shut hsh, show lexG (S.length + la.length + 1 + S.length) (lb ++ S) = lexG (S.length + la.length + 1 + S.length) lb by rw [hS]; exact lexG_chunks is _ _]
    cases lexG S.length la with
    | mk us o => cases o <;> rfl
  have m1 := lexG_move S.length la
  have m2 := lexG_move (S.length + la.length + 1 + S.length) lb
  rcases wordsL_split (by omega) h1 with ⟨rfl, rfl, e1⟩ | ⟨rfl, rfl, hy, vs, e1⟩
  · rw [e1] at m1
    cases hx : lexG S.length la with
    | mk us o =>
      rw [hx] at m1 e3
      obtain rfl : o = none := m1.2.2 rfl
      dsimp only at m1 e3
      rcases wordsL_split (by omega) h2 with ⟨rfl, rfl, e2⟩ | ⟨rfl, rfl, hy, vs, e2⟩
      · rw [e2] at m2
        rw [m2.2.2 rfl] at e3
        rw [wordsL_ok hl3 e3] at h3
        simp only [Prod.mk.injEq] at h3
        obtain ⟨rfl, rfl, rfl⟩ := h3
        exact .inr (.inr ⟨rfl, rfl, rfl, by rw [← m1.1, ← m2.1]; simp [texts]⟩)
      · rw [e2] at m2
        cases ho : (lexG (S.length + la.length + 1 + S.length) lb).2 with
        | none => exact absurd (m2.2.1 ho) (by simp)
        | some k =>
          rw [ho] at e3
          rw [wordsL_bad hl3 e3] at h3
          simp only [Prod.mk.injEq] at h3
          exact .inr (.inl ⟨rfl, rfl, h3.2.2⟩)
  · rw [e1] at m1
    cases hx : lexG S.length la with
    | mk us o =>
      rw [hx] at m1 e3
      cases o with
      | none => exact absurd (m1.2.1 rfl) (by simp)
      | some k =>
        dsimp only at e3
        rw [wordsL_bad hl3 e3] at h3
        simp only [Prod.mk.injEq] at h3
        exact .inl ⟨rfl, h3.2.2⟩
theorem rd_byte {w : World} {B n : Nat} {A : Option Addr} {bs : List UInt8} (h : Rd w B 1 A n (bs.map bv)) {i : Nat} (hi : i < n) :
    ∃ b o x, A = some ⟨b, o, none⟩ ∧ b < B ∧ bs[i]? = some x ∧ w.cell? ⟨b, o + i, none⟩ = some (.int .u8 (x.toNat : Int)) := by
  obtain ⟨b, o, e, hb, hc⟩ := h.2 (by omega)
  have hl := h.len1
  rw [List.length_map] at hl
  have ht : bs[i]? = some (bs[i]'(by omega)) := List.getElem?_eq_getElem _
  exact ⟨b, o, _, e, hb, ht, hc i _ (by rw [List.getElem?_map, ht]; rfl)⟩
def cells5 : List Value := [sv ⟨#[32]⟩, sv ⟨#[9]⟩, sv ⟨#[10]⟩, sv ⟨#[13]⟩, sv ⟨#[37, 32, 115, 97, 105, 100, 32, 40, 32, 97, 10]⟩]
theorem cells5_at : ∀ m : Nat, m < 5 → ∃ T : ByteArray, cells5[m]? = some (sv T) ∧ tb T = chunk m ∧ T.size ≤ 11
  | 0, _ => ⟨_, rfl, rfl, by decide⟩
  | 1, _ => ⟨_, rfl, rfl, by decide⟩
  | 2, _ => ⟨_, rfl, rfl, by decide⟩
  | 3, _ => ⟨_, rfl, rfl, by decide⟩
  | 4, _ => ⟨_, rfl, rfl, by decide⟩
  | m + 5, h => absurd h (by omega)

set_option maxRecDepth 100000 in
set_option maxHeartbeats 400000 in
theorem walk (ok : LexOk) (a b : ByteArray) (A : Option Addr) (n c : Nat) (bs : List UInt8) (w : World) (hr : Rd w w.heap.size 1 A n (bs.map bv)) (hnc : n ≤ c) (hc : c ≤ 140737488351232) : Calls Try.prog 5 #[sv a, sv b, .slice A n c] w fun e w' => e = .returned (.bool true) ∧ Below w.heap.size w w' := by
  by_cases h1 : 2048 < a.size
  · have d1 : decide ((2048 : Int) < (a.size : Int)) = true := by simp; omega
    have HB := Lib.hid (Below.refl w.heap.size w)
    go_enter Try.func5, Try.ntmps5
    repeat (first | go_skip | go_guarded | go_step)
    refine (lWorks_any ok w).mono ?_
    rintro e w9 ⟨rfl, hb9⟩
    have HB9 := Lib.hid (HB.out.trans (hb9.mono HB.out.size))
    clear hb9
    dsimp only
    repeat (first | go_skip | go_guarded | go_step)
    go_ret
    exact ⟨rfl, HB9.out⟩
  by_cases h2 : 2048 < b.size
  · have d1 : decide ((2048 : Int) < (a.size : Int)) = false := by simp; omega
    have d2 : decide ((2048 : Int) < (b.size : Int)) = true := by simp; omega
    have HB := Lib.hid (Below.refl w.heap.size w)
    go_enter Try.func5, Try.ntmps5
    repeat (first | go_skip | go_guarded | go_step)
    refine (lWorks_any ok w).mono ?_
    rintro e w9 ⟨rfl, hb9⟩
    have HB9 := Lib.hid (HB.out.trans (hb9.mono HB.out.size))
    clear hb9
    dsimp only
    repeat (first | go_skip | go_guarded | go_step)
    go_ret
    exact ⟨rfl, HB9.out⟩
  by_cases h3 : n = 0
  · subst h3
    have d1 : decide ((2048 : Int) < (a.size : Int)) = false := by simp; omega
    have d2 : decide ((2048 : Int) < (b.size : Int)) = false := by simp; omega
    have HB := Lib.hid (Below.refl w.heap.size w)
    go_enter Try.func5, Try.ntmps5
    repeat (first | go_skip | go_guarded | go_step)
    refine (lWorks_any ok w).mono ?_
    rintro e w9 ⟨rfl, hb9⟩
    have HB9 := Lib.hid (HB.out.trans (hb9.mono HB.out.size))
    clear hb9
    dsimp only
    repeat (first | go_skip | go_guarded | go_step)
    go_ret
    exact ⟨rfl, HB9.out⟩
  by_cases h4 : 100 < n
  · have d1 : decide ((2048 : Int) < (a.size : Int)) = false := by simp; omega
    have d2 : decide ((2048 : Int) < (b.size : Int)) = false := by simp; omega
    have d3 : ¬ ((n : Int) = 0) := by omega
    have d4 : decide ((100 : Int) < (n : Int)) = true := by simp; omega
    have HB := Lib.hid (Below.refl w.heap.size w)
    go_enter Try.func5, Try.ntmps5
    repeat (first | go_skip | go_guarded | go_step)
    refine (lWorks_any ok w).mono ?_
    rintro e w9 ⟨rfl, hb9⟩
    have HB9 := Lib.hid (HB.out.trans (hb9.mono HB.out.size))
    clear hb9
    dsimp only
    repeat (first | go_skip | go_guarded | go_step)
    go_ret
    exact ⟨rfl, HB9.out⟩
  have d1 : decide ((2048 : Int) < (a.size : Int)) = false := by simp; omega
  have d2 : decide ((2048 : Int) < (b.size : Int)) = false := by simp; omega
  have d3 : ¬ ((n : Int) = 0) := by omega
  have d4 : decide ((100 : Int) < (n : Int)) = false := by simp; omega
  have HR0 := Lib.hid hr
  clear hr
  go_enter Try.func5, Try.ntmps5
  go_upto_region 4 with (fail)
  obtain ⟨U, hU, hk, hbu⟩ : ∃ U, U = w.alloc (.cells #[.string ⟨#[32]⟩, .string ⟨#[9]⟩, .string ⟨#[10]⟩, .string ⟨#[13]⟩, .string ⟨#[37, 32, 115, 97, 105, 100, 32, 40, 32, 97, 10]⟩] 9) ∧ Bk U w.heap.size 9 cells5 ∧ Below w.heap.size w U := ⟨_, rfl, Bk.new w _ cells5, (Below.refl _ _).alloc (Nat.le_refl _) _⟩
  rw [← hU]
  clear hU
  have HR := Lib.hid (HR0.out.below hbu)
  have HK := Lib.hid hk
  have HBU := Lib.hid hbu
  clear hk hbu HR0
  repeat (first | go_skip | go_guarded | go_step)
  go_loop [8, 9] (fun s' i' => ∃ (i : Nat) (X : ByteArray), i ≤ n ∧ i' = .int .i64 (i : Int) ∧ s' = sv X ∧ tb X = ((bs.take i).map fun x => x.toNat % 5).flatMap chunk) (fun _ i => n - (intOf i).toNat)
  case atStart => exact ⟨0, ⟨#[]⟩, by omega, rfl, rfl, rfl⟩
  case round =>
    obtain ⟨i, X, hi, rfl, rfl, hX⟩ := hrel
    have HX := Lib.hid hX
    have hXl : X.size ≤ 1100 := by
      have hl := chunks_le ((bs.take i).map fun x => x.toNat % 5)
      rw [← hX, tb_len, List.length_map, List.length_take] at hl
      omega
    clear hX
    by_cases hlt : i < n
    · have hci : (i : Int) < (n : Int) := by omega
      obtain ⟨bb, oo, x, hA, hbb, hx, hcx⟩ := rd_byte HR.out hlt
      subst hA
      obtain ⟨m, hmx⟩ : ∃ m, m = x.toNat % 5 := ⟨_, rfl⟩
      have hx8 : x.toNat < 256 := x.toNat_lt
      have hm : m < 5 := by omega
      obtain ⟨T, hT5, hTc, hTs⟩ := cells5_at _ hm
      have hmI : (m : Int) < 5 := by omega
      have htm : (wrap64 (x.toNat : Int)).tmod 5 = (m : Int) := by
        rw [show wrap64 (x.toNat : Int) = (x.toNat : Int) by unfold wrap64; omega, Int.tmod_eq_emod_of_nonneg (by omega)]
        omega
      obtain ⟨xk, hxk⟩ : ∃ xk : Int, xk = (x.toNat : Int) := ⟨_, rfl⟩
      rw [← hxk] at htm hcx
      have hcT : U.cell? ⟨w.heap.size, m, none⟩ = some (sv T) := (HK.out.cell _).trans hT5
      have HT := Lib.hid hTc
      have HX1 := Lib.hid (show tb (X ++ T) = ((bs.take (i + 1)).map fun x => x.toNat % 5).flatMap chunk by
        rw [tb_add, HX.out, hTc, List.take_add_one, hx, hmx]
        simp)
      have k1 : X.size + T.size ≤ 9223372036854775807 := by omega
      have k2 : ¬ (9223372036854775807 < X.size + T.size) := by omega
      clear hx hT5 hTc hx8 hxk hmx HT
      repeat (first | go_skip | go_guarded | go_step)
      go_round
      case rel => exact ⟨i + 1, X ++ T, by omega, by go_num, rfl, HX1.out⟩
      case measure => simp [intOf] <;> omega
    · obtain rfl : i = n := by omega
      have hbl : bs.length = i := by
        have := HR.out.len1
        rwa [List.length_map] at this
      have HX2 := Lib.hid (show tb X = (bs.map fun x => x.toNat % 5).flatMap chunk by rw [HX.out, List.take_of_length_le (by omega)])
      clear HX hbl
      have hla := tb_len a
      have hlb := tb_len b
      repeat (first | go_skip | go_guarded | go_step)
      refine (ok.words a U (by omega)).mono ?_
      rintro e w1 ⟨A1, m1, c1, ws1, y1, z1, rfl, ho1, hb1, ha1⟩
      dsimp only
      repeat (first | go_skip | go_guarded | go_step)
      refine (ok.words b w1 (by omega)).mono ?_
      rintro e w2 ⟨A2, m2, c2, ws2, y2, z2, rfl, ho2, hb2, ha2⟩
      have k1 : ¬ (9223372036854775807 < X.size + a.size) := by omega
      have k2 : ¬ (9223372036854775807 < X.size + a.size + 1) := by omega
      have k3 : ¬ (9223372036854775807 < X.size + a.size + 1 + X.size) := by omega
      have k4 : ¬ (9223372036854775807 < X.size + a.size + 1 + X.size + b.size) := by omega
      have k5 : ¬ (9223372036854775807 < X.size + a.size + 1 + X.size + b.size + X.size) := by omega
      have l1 : X.size + a.size ≤ 9223372036854775807 := by omega
      have l2 : X.size + a.size + 1 ≤ 9223372036854775807 := by omega
      have l3 : X.size + a.size + 1 + X.size ≤ 9223372036854775807 := by omega
      have l4 : X.size + a.size + 1 + X.size + b.size ≤ 9223372036854775807 := by omega
      have l5 : X.size + a.size + 1 + X.size + b.size + X.size ≤ 9223372036854775807 := by omega
      dsimp only
      repeat (first | go_skip | go_guarded | go_step)
      have hsz3 : (X ++ a ++ ⟨#[10]⟩ ++ X ++ b ++ X).size ≤ 200000 := by simp only [ByteArray.size_append]; show X.size + a.size + 1 + X.size + b.size + X.size ≤ 200000; omega
      refine (ok.words _ w2 ?hsz).mono ?_
      case hsz => exact hsz3
      clear hsz3
      rintro e w3 ⟨A3, m3, c3, ws3, y3, z3, rfl, ho3, hb3, ha3⟩
      have ht3 : tb (X ++ a ++ ⟨#[10]⟩ ++ X ++ b ++ X) = tb X ++ (tb a ++ 10 :: (tb X ++ (tb b ++ tb X))) := by
        simp only [tb_add, List.append_assoc]
        rfl
      replace ha3 := ha3.trans (congrArg wordsL ht3)
      have hP := blanks HX2.out (by omega) (by omega) (by rw [tb_len]; omega) ha1 ha2 ha3
      have hs1 := wordsL_small (by omega) ha1
      have hs2 := wordsL_small (by omega) ha2
      obtain rfl : m1 = ws1.length := (rdV_len (OwV.rd ho1)).symm
      obtain rfl : m2 = ws2.length := (rdV_len (OwV.rd ho2)).symm
      obtain rfl : m3 = ws3.length := (rdV_len (OwV.rd ho3)).symm
      have HO2 := Lib.hid (OwV.rd (ownBelow ho2 hb3 (Nat.le_refl _)))
      have hb13 := hb2.trans (hb3.mono hb2.size)
      have HO1 := Lib.hid (OwV.rd (ownBelow ho1 hb13 (Nat.le_refl _)))
      have HO3 := Lib.hid (OwV.rd ho3)
      have hbu3 := hb1.trans (hb13.mono hb1.size)
      have HB := Lib.hid (HBU.out.trans (hbu3.mono HBU.out.size))
      rw [hla] at hs1
      rw [hlb] at hs2
      clear ho1 ho2 ho3 hb1 hb2 hb3 hb13 hbu3 ha1 ha2 ha3 ht3 hla hlb k1 k2 k3 k4 k5 l1 l2 l3 l4 l5 HBU HK HR HX2
      dsimp only
      rcases hP with ⟨rfl, rfl⟩ | ⟨rfl, rfl, rfl⟩ | ⟨rfl, rfl, rfl, h3'⟩
      · repeat (first | go_skip | go_guarded | go_step)
        refine (lWorks_any ok w3).mono ?_
        rintro e w9 ⟨rfl, hb9⟩
        have HB9 := Lib.hid (HB.out.trans (hb9.mono HB.out.size))
        clear hb9
        dsimp only
        repeat (first | go_skip | go_guarded | go_step)
        go_ret
        exact ⟨rfl, HB9.out⟩
      · repeat (first | go_skip | go_guarded | go_step)
        refine (lWorks_any ok w3).mono ?_
        rintro e w9 ⟨rfl, hb9⟩
        have HB9 := Lib.hid (HB.out.trans (hb9.mono HB.out.size))
        clear hb9
        dsimp only
        repeat (first | go_skip | go_guarded | go_step)
        go_ret
        exact ⟨rfl, HB9.out⟩
      · have hn3 : ws3.length = ws1.length + ws2.length := by
          have h := congrArg List.length h3'
          simpa [texts] using h
        have H3 := Lib.hid h3'
        clear h3'
        have hne : ((ws3.length : Int) = (ws1.length : Int) + (ws2.length : Int)) = True := by simp; omega
        repeat (first | go_skip | go_guarded | go_step)
        go_loopw [19] (fun p' wr => ∃ (i : Nat), i ≤ ws3.length ∧ p' = .int .i64 (i : Int) ∧ Below w3.heap.size w3 wr) (fun p _ => ws3.length - (intOf p).toNat)
        case atStart => exact ⟨0, by omega, rfl, Below.refl _ _⟩
        case round =>
          rename_i wr
          obtain ⟨j, hj, rfl, hbr⟩ := hrel
          have HBR := Lib.hid hbr
          by_cases hlj : j < ws3.length
          · have hcj : (j : Int) < (ws3.length : Int) := by omega
            obtain ⟨b3, o3, ⟨k, t, p⟩, hA3, hbb3, hx3, hc30, hc31, hc32⟩ := rdV_at (HO3.out.below hbr) hlj
            subst hA3
            have hbr0 := hbr
            clear hbr
            dsimp only at hc30 hc31 hc32
            have hcs : (j : Int) < (ws1.length : Int) + (ws2.length : Int) := by omega
            go_upto_region 20 with (fail)
            obtain ⟨V0, hV0, hk, hbu⟩ : ∃ V0, V0 = wr.alloc (.cells #[.int .u8 0, .string ⟨#[]⟩, .int .i64 0] 36) ∧ Bk V0 wr.heap.size 36 [.int .u8 0, .string ⟨#[]⟩, .int .i64 0] ∧ Below wr.heap.size wr V0 := ⟨_, rfl, Bk.new wr _ _, (Below.refl _ _).alloc (Nat.le_refl _) _⟩
            rw [← hV0]
            clear hV0
            have hbr0 := hbr0.trans (hbu.mono hbr0.size)
            have hsz := HBR.out.size
            have q30 := (hbu.cell (p := ⟨b3, o3 + j * 3, none⟩) (by show b3 < wr.heap.size; omega)).trans hc30
            have q31 := (hbu.cell (p := ⟨b3, o3 + j * 3 + 1, none⟩) (by show b3 < wr.heap.size; omega)).trans hc31
            have hg : b3 ≠ wr.heap.size := by omega
            have g0 := hk.cell 0
            have g1 := hk.cell 1
            have g2 := hk.cell 2
            have f0 := hk.frozen 0
            have f1 := hk.frozen 1
            have f2 := hk.frozen 2
            clear hc30 hc31 hc32
            obtain ⟨h, hhe⟩ : ∃ h, h = wr.heap.size := ⟨_, rfl⟩
            rw [← hhe] at hk hbu hsz hg g0 g1 g2 f0 f1 f2 ⊢
            clear hhe
            have hx3t : (texts ws3)[j]? = some (k, t) := by unfold texts; rw [List.getElem?_map, hx3]; rfl
            rw [H3.out] at hx3t
            clear hx3
            by_cases hi1 : j < ws1.length
            · have hci1 : (j : Int) < (ws1.length : Int) := by omega
              obtain ⟨b1, o1, ⟨k', t', p'⟩, hA1, hbb1, hx1, hc10, hc11, hc12⟩ := rdV_at (HO1.out.below hbr0) hi1
              obtain ⟨rfl, rfl⟩ : k' = k ∧ t' = t := by
                rw [List.getElem?_append_left (by simpa [texts] using hi1), texts, List.getElem?_map, hx1] at hx3t
                simpa using hx3t
              subst hA1
              clear hx1 hx3t
              dsimp only at hc10 hc11 hc12
              go_upto_region 23 with (fail)
              obtain ⟨V, hV, hkv, hbv⟩ : ∃ V, V = ((V0.setCell ⟨h, 0, none⟩ (.int .u8 (k' : Int))).setCell ⟨h, 1, none⟩ (strV t')).setCell ⟨h, 2, none⟩ (.int .i64 (p' : Int)) ∧ Bk V h 36 [.int .u8 (k' : Int), strV t', .int .i64 (p' : Int)] ∧ Below h V0 V := ⟨_, rfl, (((hk).set_ 0 _).set_ 1 _).set_ 2 _, (((Below.refl _ _).setCell (p := ⟨h, 0, none⟩) (Nat.le_refl _) _).setCell (p := ⟨h, 1, none⟩) (Nat.le_refl _) _).setCell (p := ⟨h, 2, none⟩) (Nat.le_refl _) _⟩
              rw [← hV]
              clear hV
              have HBV := Lib.hid (hbr0.trans (hbv.mono hsz))
              obtain ⟨T, hT⟩ : ∃ T : ByteArray, strV t' = sv T := ⟨⟨t'.toArray⟩, rfl⟩
              rw [hT] at hkv q31
              have r30 : ∀ q, (V.drewN q).cell? ⟨b3, o3 + j * 3, none⟩ = some (.int .u8 (k' : Int)) := fun _ => (hbv.cell (p := ⟨b3, o3 + j * 3, none⟩) (by show b3 < h; omega)).trans q30
              have r31 : ∀ q, (V.drewN q).cell? ⟨b3, o3 + j * 3 + 1, none⟩ = some (sv T) := fun _ => (hbv.cell (p := ⟨b3, o3 + j * 3 + 1, none⟩) (by show b3 < h; omega)).trans q31
              have s0 : ∀ q, (V.drewN q).cell? ⟨h, 0, none⟩ = some (.int .u8 (k' : Int)) := fun _ => hkv.cell 0
              have s1 : ∀ q, (V.drewN q).cell? ⟨h, 1, none⟩ = some (sv T) := fun _ => hkv.cell 1
              clear hk hbu hbv hbr0 g0 g1 g2 f0 f1 f2 hkv hT q30 q31
              change Code.wp _ _ _ _ (V.drewN 0)
              repeat (first | go_skip | go_guarded | go_step)
              go_quiet (fail)
              repeat (first | go_skip | go_guarded | go_step)
              go_roundw
              case rel => exact ⟨j + 1, by omega, by go_num, by first | exact HBV.out | exact ⟨HBV.out.os, HBV.out.tape, HBV.out.output, HBV.out.size, HBV.out.block⟩⟩
              case measure => simp [intOf] <;> omega
            · have hci1 : ¬ ((j : Int) < (ws1.length : Int)) := by omega
              have hi2 : j - ws1.length < ws2.length := by omega
              obtain ⟨b2, o2, ⟨k', t', p'⟩, hA2, hbb2, hx2, hc20, hc21, hc22⟩ := rdV_at (HO2.out.below hbr0) hi2
              obtain ⟨rfl, rfl⟩ : k' = k ∧ t' = t := by
                rw [List.getElem?_append_right (by simpa [texts] using hi1), show (texts ws1).length = ws1.length by simp [texts], texts, List.getElem?_map, hx2] at hx3t
                simpa using hx3t
              subst hA2
              clear hx3t
              obtain ⟨j', rfl⟩ : ∃ j', j = ws1.length + j' := ⟨j - ws1.length, by omega⟩
              rw [Nat.add_sub_cancel_left] at hi2 hc20 hc21 hc22
              clear hx2
              dsimp only at hc20 hc21 hc22
              go_upto_region 23 with (fail)
              obtain ⟨V, hV, hkv, hbv⟩ : ∃ V, V = ((V0.setCell ⟨h, 0, none⟩ (.int .u8 (k' : Int))).setCell ⟨h, 1, none⟩ (strV t')).setCell ⟨h, 2, none⟩ (.int .i64 (p' : Int)) ∧ Bk V h 36 [.int .u8 (k' : Int), strV t', .int .i64 (p' : Int)] ∧ Below h V0 V := ⟨_, rfl, (((hk).set_ 0 _).set_ 1 _).set_ 2 _, (((Below.refl _ _).setCell (p := ⟨h, 0, none⟩) (Nat.le_refl _) _).setCell (p := ⟨h, 1, none⟩) (Nat.le_refl _) _).setCell (p := ⟨h, 2, none⟩) (Nat.le_refl _) _⟩
              rw [← hV]
              clear hV
              have HBV := Lib.hid (hbr0.trans (hbv.mono hsz))
              obtain ⟨T, hT⟩ : ∃ T : ByteArray, strV t' = sv T := ⟨⟨t'.toArray⟩, rfl⟩
              rw [hT] at hkv q31
              have r30 : ∀ q, (V.drewN q).cell? ⟨b3, o3 + (ws1.length + j') * 3, none⟩ = some (.int .u8 (k' : Int)) := fun _ => (hbv.cell (p := ⟨b3, o3 + (ws1.length + j') * 3, none⟩) (by show b3 < h; omega)).trans q30
              have r31 : ∀ q, (V.drewN q).cell? ⟨b3, o3 + (ws1.length + j') * 3 + 1, none⟩ = some (sv T) := fun _ => (hbv.cell (p := ⟨b3, o3 + (ws1.length + j') * 3 + 1, none⟩) (by show b3 < h; omega)).trans q31
              have s0 : ∀ q, (V.drewN q).cell? ⟨h, 0, none⟩ = some (.int .u8 (k' : Int)) := fun _ => hkv.cell 0
              have s1 : ∀ q, (V.drewN q).cell? ⟨h, 1, none⟩ = some (sv T) := fun _ => hkv.cell 1
              clear hk hbu hbv hbr0 g0 g1 g2 f0 f1 f2 hkv hT q30 q31
              change Code.wp _ _ _ _ (V.drewN 0)
              repeat (first | go_skip | go_guarded | go_step)
              go_quiet (fail)
              repeat (first | go_skip | go_guarded | go_step)
              go_roundw
              case rel => exact ⟨(ws1.length + j') + 1, by omega, by go_num, by first | exact HBV.out | exact ⟨HBV.out.os, HBV.out.tape, HBV.out.output, HBV.out.size, HBV.out.block⟩⟩
              case measure => simp [intOf] <;> omega
          · obtain rfl : j = ws3.length := by omega
            have HBW := Lib.hid (HB.out.trans (hbr.mono HB.out.size))
            clear hbr HBR
            repeat (first | go_skip | go_guarded | go_step)
            refine (lWorks_any ok wr).mono ?_
            rintro e w9 ⟨rfl, hb9⟩
            have HB9 := Lib.hid (HBW.out.trans (hb9.mono HBW.out.size))
            clear hb9
            dsimp only
            repeat (first | go_skip | go_guarded | go_step)
            go_ret
            exact ⟨rfl, HB9.out⟩

open Go.ChangeShapes Go.WideShapes Go.ChangeAt

set_option maxRecDepth 100000 in
theorem lifted (ok : LexOk) (os : Os) (started : os.Started) (H : Type) (enc : TypeId × Value → H) :
    ReturnsInHanded {} Try.checked os 5 .any (Rows.lexBlanksSpec.pre6 enc Try.prog Try.f5 Rows.lexBlanksRow.domain false) (Rows.lexBlanksSpec.post enc Try.prog Try.f5 false true false false) := by
  refine returnsInHanded_of_change_sized (C := Try.checked) ownK started (by kernel_rfl) Try.func5
    (ChangeSpec.witness6 (enc := enc) (C := Try.checked) false ⟨#[], #[.string ⟨#[]⟩, .string ⟨#[]⟩, .slice none 0 0], []⟩ 8 (by kernel_rfl) (by kernel_rfl) (by kernel_rfl) (by kernel_rfl)) ?_
  intro W base args ds gs before hval0 hW hcnd hsz0 _
  have hsz : (DataW.weightsEach Try.prog (Try.f5.params.toList ++ Rows.lexBlanksSpec.plain.varTypes Try.prog) (ds ++ gs)).all (· ≤ reachBytes) = true := hsz0
  have hval : ∀ (j : Nat) t v, Try.f5.params[j]? = some t → args[j]? = some v → Value.okWide Try.prog W .any base t v := hval0
  have hlt : ∀ x ∈ before, x.block < W.heap.size := fun x hx => by simpa using hW.lt x hx
  have hW' := hW
  obtain ⟨p, q, hA0, hV, rfl, hfz, hnd⟩ := hW
  have hA : DataW.TrodAll enc Try.prog W 0 (fun _ => true) true Try.f5.params.toList args.toList ds p := hA0
  rw [Try.params5] at hA hval hsz
  obtain ⟨v0, vs0, d0, ds0, p0, q0, hargs, rfl, rfl, h0, r0⟩ := trodAll_cons hA
  obtain ⟨v1, vs1, d1, ds1, p1, q1, rfl, rfl, rfl, h1, r1⟩ := trodAll_cons r0
  obtain ⟨v2, vs2, d2, ds2, p2, q2, rfl, rfl, rfl, h2, r2⟩ := trodAll_cons r1
  obtain ⟨rfl, rfl, rfl⟩ := trodAll_nil r2
  obtain rfl : args = #[v0, v1, v2] := by cases args; simp_all
  obtain ⟨rfl, rfl⟩ := trodVars_none hV
  obtain ⟨s, rfl, rfl, rfl, hs0⟩ := Go.ChangeMaps.open_string Try.underlying9 (hval 0 9 v0 rfl rfl) h0
  obtain ⟨u, rfl, rfl, rfl, hs1⟩ := Go.ChangeMaps.open_string Try.underlying9 (hval 1 9 v1 rfl rfl) h1
  obtain ⟨A, n, c, bs, rfl, hk2, hm2, hrb⟩ := open_bytes (hval 2 34 v2 rfl rfl) h2 (fun x hx => hlt x (by simp [hx])) (fun elems spare e => by
    have := sized_slice hsz (j := 2) (t := 34) (e := 5) (elems := elems) (spare := spare) rfl (by rw [e]; rfl) Try.underlying34
    rw [bytes8] at this
    simp only [reachBytes] at this
    omega)
  have main : Calls Try.prog 5 #[sv s, sv u, .slice A n c] W fun e w' => e = .returned (.bool true) ∧ Below W.heap.size W w' := by
    exact walk ok s u A n c bs W hrb hk2 hm2
  refine main.mono fun e W' ⟨he, hg⟩ => ?_
  subst he
  exact ⟨_, rfl, post_law laidOut rfl (by kernel_rfl) hW' hg rfl Try.underlying4 rfl rfl rfl⟩

theorem proved_of (ok : LexOk) : Rows.LexBlanksSaid :=
  OpenClaim.holds_of_wide 5 Try.f5 rfl rfl rfl rfl rfl rfl rfl ⟨rfl, rfl, rfl, rfl, rfl⟩ rfl rfl rfl rfl rfl (by kernel_rfl) Try.func5 (by kernel_rfl)
    (of_decide_eq_true (by kernel_rfl)) (by unfold Func.isWrapper; first | (rw [if_pos (by decide +kernel)]; kernel_rfl) | (rw [if_neg (by decide +kernel)]; exact ⟨rfl, rfl⟩))
    (fun os started H enc _ => lifted ok os started H enc)
#print axioms proved_of
end Go.Proofs.Ytjafbkkdjmlaoaa.lexBlanks
