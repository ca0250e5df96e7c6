/- Texts, packed: QbB QbC QbD QcA -/
import Derived.Test.YtoigpbajefkpoaaGreatDoorPyU
set_option linter.unusedVariables false
set_option linter.unusedSimpArgs false
namespace Go.Proofs.YtoigpbajefkpoaaGreatDoor
open Go Go.RowKit

theorem come_snoc {T : List Tm} {i k : Nat} {t : Tm} (h : T[i]? = some t) (hk : comeG 0 (T.take i) = some k) : comeG 0 (T.take (i + 1)) = comeG k [t] := by
 rw [List.take_add_one, h, Option.toList_some, comeG_app, hk]
 rfl
theorem come_stop {T : List Tm} {i k : Nat} {t : Tm} (h : T[i]? = some t) (hk : comeG 0 (T.take i) = some k) (hn : comeG k [t] = none) : comeG 0 T = none := by
 have h1 := come_snoc h hk
 rw [hn] at h1
 have h2 := comeG_app (T.take (i + 1)) (T.drop (i + 1)) 0
 rw [List.take_append_drop, h1] at h2
 exact h2
set_option maxRecDepth 100000 in
set_option maxHeartbeats 8000000 in
theorem rCome_any (sd : Bool) (tm : Tm) (p : UInt32) (Ai : Option Addr) (ni ci : Nat) (as_ : List Tm) (Bi : Option Addr) (mi di : Nat) (Ri : List SlA) (M : List Co) (w : World) (hta : RdT w w.heap.size Ai ni as_) (hka : RdK w w.heap.size Bi mi Ri M) (hni : ni ≤ 1000) (hmi : mi ≤ 1000) (hMM : ∀ x ∈ M, x.2.2.2.2.length ≤ 1000) :
  Calls Tryz.prog 21 #[.agg #[.bool sd, .bool tm.1, nv tm.2, nv p, .slice Ai ni ci, .slice Bi mi di]] w fun e w' => e = .returned (.bool (comeR ((sd, tm, (p, as_)), M))) ∧ Below w.heap.size w w' := by
 obtain ⟨W, hW, hb, hbw⟩ := box6 w [.bool sd, .bool tm.1, nv tm.2, nv p, .slice Ai ni ci, .slice Bi mi di] 54
 have HW := Lib.hid hW
 have k0 := hb.read (Below.refl _ _) 0 rfl
 have k1 := hb.read (Below.refl _ _) 1 rfl
 have k2 := hb.read (Below.refl _ _) 2 rfl
 have k3 := hb.read (Below.refl _ _) 3 rfl
 have k4 := hb.read (Below.refl _ _) 4 rfl
 have k5 := hb.read (Below.refl _ _) 5 rfl
 have HB := Lib.hid hbw
 have HTM := Lib.hid (rTerms_any sd tm p Ai ni ci as_ Bi mi di Ri M W ((hta.below hbw).more hbw.size) ((hka.below hbw).more hbw.size) hni hmi hMM)
 clear hW hb hta hka hMM hbw
 obtain ⟨T, hT⟩ : ∃ T, T = termsR ((sd, tm, (p, as_)), M) := ⟨_, rfl⟩
 have HC := Lib.hid (show comeR ((sd, tm, (p, as_)), M) = (comeG 0 T).isSome by rw [hT]; rfl)
 rw [← hT] at HTM
 clear hT
 go_enter Tryz.func21, Tryz.ntmps21
 go_upto_region 1 with (fail)
 rw [← HW.out]
 repeat (first | go_skip | go_guarded | go_step)
 refine (HTM.out).mono ?_
 rintro e w1 ⟨A', n', c', rfl, hr1, hn1, hb1⟩
 have HR1 := Lib.hid hr1
 have HB1 := Lib.hid (HB.out.trans (hb1.mono HB.out.size))
 clear hr1 hb1 k0 k1 k2 k3 k4 k5 HTM
 dsimp only
 repeat (first | go_skip | go_guarded | go_step)
 go_loopw [4, 5] (fun pp q wr => ∃ (i k : Nat), i ≤ n' ∧ k ≤ i ∧ pp = .int .u32 (k : Int) ∧ q = .int .i64 (i : Int) ∧ comeG 0 (T.take i) = some k ∧ Below w1.heap.size w1 wr) (fun _ q _ => n' - (intOf q).toNat)
 case atStart => exact ⟨0, 0, by omega, by omega, rfl, rfl, rfl, Below.refl _ _⟩
 case round =>
  obtain ⟨i, k, hi, hki, rfl, rfl, hcm, hbr⟩ := hrel
  have HCM := Lib.hid hcm
  have HBR := Lib.hid hbr
  clear hcm hbr
  by_cases hlt : i < n'
  ·
   have hci : (i : Int) < (n' : Int) := by omega
   obtain ⟨b, o, t, hA, hbb, hx, hc0, hc1⟩ := rdT_at (HR1.out.below HBR.out) hlt
   subst hA
   obtain ⟨v, u⟩ := t
   have HX := Lib.hid hx
   have HS := Lib.hid (come_snoc hx HCM.out)
   clear hx
   obtain ⟨x, hxu⟩ : ∃ x : Nat, x = u.toNat := ⟨_, rfl⟩
   have hc1' : _ = some (Value.int .u32 (x : Int)) := hc1.trans (by rw [hxu])
   have HU := Lib.hid hxu
   clear hc1 hxu
   cases v with
   | false =>
    have HS2 := Lib.hid (show comeG 0 (T.take (i + 1)) = some k by rw [HS.out]; rfl)
    repeat (first | go_skip | go_guarded | go_step)
    go_roundw
    case rel => exact ⟨i + 1, k, by omega, by omega, rfl, by go_num, HS2.out, HBR.out⟩
    case measure => simp [intOf]; omega
   | true =>
    by_cases hgt : k < x
    ·
     have hdt : (k : Int) < (x : Int) := by omega
     have hd1 : decide ((k : Int) < (x : Int)) = true := decide_eq_true hdt
     have hnone : comeG k [(true, u)] = none := by
      rw [comeG, if_pos rfl]
      dsimp only
      rw [if_pos (by rw [← HU.out]; exact hgt)]
     have HN := Lib.hid (show comeR ((sd, tm, (p, as_)), M) = false by rw [HC.out, come_stop HX.out HCM.out hnone]; rfl)
     clear hnone
     repeat (first | go_skip | go_guarded | go_step)
     go_ret
     exact ⟨by rw [HN.out]; rfl, HB1.out.trans (HBR.out.mono HB1.out.size)⟩
    ·
     have hdt : ¬ (k : Int) < (x : Int) := by omega
     have hd1 : decide ((k : Int) < (x : Int)) = false := decide_eq_false hdt
     by_cases heq : x = k
     ·
      have HS2 := Lib.hid (show comeG 0 (T.take (i + 1)) = some (k + 1) by
       rw [HS.out, comeG, if_pos rfl]
       dsimp only
       rw [if_neg (by rw [← HU.out]; exact hgt), if_pos (by rw [← HU.out]; exact heq)]
       rfl)
      have he1 : ((x : Int) == (k : Int)) = true := by simp; omega
      have hw1 : IntKind.u32.wrap ((k : Int) + 1) = ((k + 1 : Nat) : Int) := by rw [IntKind.wrap_u32]; omega
      subst heq
      repeat (first | go_skip | go_guarded | go_step)
      go_roundw
      case rel => exact ⟨i + 1, x + 1, by omega, by omega, by first | rfl | go_num, by go_num, HS2.out, HBR.out⟩
      case measure => simp [intOf]; omega
     ·
      have HS2 := Lib.hid (show comeG 0 (T.take (i + 1)) = some k by
       rw [HS.out, comeG, if_pos rfl]
       dsimp only
       rw [if_neg (by rw [← HU.out]; exact hgt), if_neg (by rw [← HU.out]; exact heq)]
       rfl)
      have he1 : ((x : Int) == (k : Int)) = false := by simp; omega
      clear heq
      repeat (first | go_skip | go_guarded | go_step)
      go_roundw
      case rel => exact ⟨i + 1, k, by omega, by omega, rfl, by go_num, HS2.out, HBR.out⟩
      case measure => simp [intOf]; omega
  ·
   obtain rfl : i = n' := by omega
   have hci : ¬ (i : Int) < (i : Int) := by omega
   have HF := Lib.hid (show comeR ((sd, tm, (p, as_)), M) = true by
    have h := HCM.out
    rw [List.take_of_length_le (by rw [rdT_len HR1.out]; exact Nat.le_refl _)] at h
    rw [HC.out, h]
    rfl)
   repeat (first | go_skip | go_guarded | go_step)
   go_ret
   exact ⟨by rw [HF.out]; rfl, HB1.out.trans (HBR.out.mono HB1.out.size)⟩
end Go.Proofs.YtoigpbajefkpoaaGreatDoor

set_option linter.unusedVariables false
set_option linter.unusedSimpArgs false
namespace Go.Proofs.YtoigpbajefkpoaaGreatDoor
open Go Go.RowKit

def Pl (sz : Nat) (l : List Wd) : Prop := ∀ w ∈ l, w.2.2 ≤ sz
theorem Pl.place {sz : Nat} {l : List Wd} (h : Pl sz l) : placeE sz l ≤ sz := by
 cases l with
 | nil => exact Nat.le_refl _
 | cons w l => exact h w (List.mem_cons_self ..)
theorem Pl.tail {sz : Nat} {l : List Wd} (h : Pl sz l) : Pl sz l.tail := fun w hw => h w (List.mem_of_mem_tail hw)
theorem Pl.suf {sz : Nat} {l r : List Wd} (h : Pl sz l) (hr : ∃ w u, l = w :: (u ++ r)) : Pl sz r := by
 obtain ⟨w, u, rfl⟩ := hr
 exact fun x hx => h x (List.mem_cons_of_mem _ (List.mem_append_right _ hx))
theorem bindE_bad {α β : Type} {x : Except PE (α × PS)} {f : α → PS → Except PE (β × PS)} {z : PE} (h : bindE x f = .error z) : x = .error z ∨ ∃ a s, x = .ok (a, s) ∧ f a s = .error z := by
 cases x with
 | error y => exact .inl (by simpa [bindE] using h)
 | ok y => exact .inr ⟨y.1, y.2, rfl, h⟩
/-- Wrong within the text. -/
def Er {α : Type} (f : Nat → PS → Except PE (α × PS)) : Prop := ∀ sz s z, Pl sz s.1 → f sz s = .error z → z.2 ≤ sz
theorem er_word (k : Nat) : Er (fun sz s => wordE sz k s) := by
 intro sz s z h hf
 dsimp only at hf
 unfold wordE at hf
 split at hf
 ·
  cases hf
 ·
  cases hf
  exact h.place
theorem er_name : Er nameE := by
 intro sz s z h hf
 unfold nameE at hf
 split at hf
 ·
  split at hf
  ·
   cases hf
  ·
   split at hf
   ·
    cases hf
    exact h.place
   ·
    cases hf
 ·
  cases hf
  exact h.place
theorem er_term : Er termE := by
 intro sz s z h hf
 unfold termE at hf
 split at hf
 ·
  split at hf
  ·
   cases hf
  ·
   split at hf
   ·
    cases hf
    exact h.place
   ·
    cases hf
 ·
  rcases bindE_bad hf with h1 | ⟨a, s1, h1, h2⟩
  ·
   exact er_name _ _ _ h h1
  ·
   cases h2
theorem suf1 {α : Type} {f : Nat → PS → Except PE (α × PS)} (h : Took1 f) {sz : Nat} {s s' : PS} {v : α} (hf : f sz s = .ok (v, s')) : ∃ w u, s.1 = w :: (u ++ s'.1) := by
 obtain ⟨l, N, V⟩ := s
 obtain ⟨r, N', V'⟩ := s'
 obtain ⟨w, hw, _⟩ := h _ _ _ _ _ _ _ _ hf
 exact ⟨w, [], by simpa using hw⟩
theorem suf {α : Type} {f : Nat → PS → Except PE (α × PS)} (h : Took f) {sz : Nat} {s s' : PS} {v : α} (hf : f sz s = .ok (v, s')) : ∃ w u, s.1 = w :: (u ++ s'.1) := by
 obtain ⟨l, N, V⟩ := s
 obtain ⟨r, N', V'⟩ := s'
 exact (h _ _ _ _ _ _ _ _ hf).1
theorem er_args : ∀ (n : Nat) (acc : List Tm), Er (fun sz s => argsE sz n acc s)
 | 0, acc => by
  intro sz s z h hf
  simp [argsE] at hf
  rw [← hf]
  exact Nat.zero_le _
 | n + 1, acc => by
  intro sz s z h hf
  dsimp only at hf
  rw [argsE] at hf
  split at hf
  ·
   cases hf
   exact h.place
  ·
   rcases bindE_bad hf with h1 | ⟨a, s1, h1, h2⟩
   ·
    exact er_term _ _ _ h h1
   ·
    have hp := h.suf (suf1 took_term h1)
    split at h2
    ·
     exact er_args n _ _ _ _ hp.tail h2
    ·
     rcases bindE_bad h2 with h3 | ⟨b, s2, h3, h4⟩
     ·
      exact er_word 6 _ _ _ hp h3
     ·
      cases h4
theorem er_atom : Er atomE := by
 intro sz s z h hf
 unfold atomE at hf
 rcases bindE_bad hf with h1 | ⟨a, s1, h1, h2⟩
 ·
  exact er_name _ _ _ h h1
 ·
  have hp := h.suf (suf1 took_name h1)
  split at h2
  ·
   rcases bindE_bad h2 with h3 | ⟨b, s2, h3, h4⟩
   ·
    exact er_args 7 [] _ _ _ hp.tail h3
   ·
    cases h4
  ·
   cases h2
theorem er_say : Er sayE := by
 intro sz s z h hf
 unfold sayE at hf
 split at hf
 ·
  rcases bindE_bad hf with h1 | ⟨a, s1, h1, h2⟩
  ·
   exact er_term _ _ _ h h1
  ·
   have hp := h.suf (suf1 took_term h1)
   rcases bindE_bad h2 with h3 | ⟨b, s2, h3, h4⟩
   ·
    exact er_word 4 _ _ _ hp h3
   ·
    have hp2 := hp.suf (suf1 (took_word 4 (by omega)) h3)
    rcases bindE_bad h4 with h5 | ⟨c, s3, h5, h6⟩
    ·
     exact er_atom _ _ _ hp2 h5
    ·
     cases h6
 ·
  rcases bindE_bad hf with h1 | ⟨a, s1, h1, h2⟩
  ·
   exact er_atom _ _ _ h h1
  ·
   cases h2
theorem er_conds : ∀ (n : Nat) (acc : List Co), Er (fun sz s => condsE sz n acc s)
 | 0, acc => by
  intro sz s z h hf
  simp [condsE] at hf
  rw [← hf]
  exact Nat.zero_le _
 | n + 1, acc => by
  intro sz s z h hf
  dsimp only at hf
  rw [condsE] at hf
  split at hf
  ·
   cases hf
   exact h.place
  ·
   have hp0 : Pl sz (if kindE s.1 = 3 then nextE s else s).1 := by
    split
    ·
     exact h.tail
    ·
     exact h
   rcases bindE_bad hf with h1 | ⟨a, s1, h1, h2⟩
   ·
    exact er_say _ _ _ hp0 h1
   ·
    have hp := hp0.suf (suf took_say h1)
    split at h2
    ·
     exact er_conds n _ _ _ _ hp.tail h2
    ·
     cases h2
theorem er_body {sz : Nat} {s : PS} {z : PE} (h : Pl sz s.1) (hf : bodyE sz s = .error z) : z.2 ≤ sz := by
 unfold bodyE at hf
 split at hf
 ·
  exact er_conds 9 [] _ _ _ h.tail hf
 ·
  cases hf
theorem pl_body {sz : Nat} {s s' : PS} {l : List Co} (h : Pl sz s.1) (hf : bodyE sz s = .ok (l, s')) : Pl sz s'.1 := by
 unfold bodyE at hf
 split at hf
 ·
  exact h.tail.suf (suf (f := fun sz s => condsE sz 9 [] s) (took_conds 9 []) (s := nextE s) hf)
 ·
  cases hf
  exact h
theorem er_rule : Er ruleE := by
 intro sz s z h hf
 unfold ruleE at hf
 rcases bindE_bad hf with h1 | ⟨a, s1, h1, h2⟩
 ·
  exact er_say _ (s.1, s.2.1, []) _ h h1
 ·
  have hp : Pl sz s1.1 := Pl.suf (l := s.1) h (suf took_say (s := (s.1, s.2.1, [])) h1)
  rcases bindE_bad h2 with h3 | ⟨b, s2, h3, h4⟩
  ·
   exact er_body hp h3
  ·
   have hp2 := pl_body hp h3
   rcases bindE_bad h4 with h5 | ⟨c, s3, h5, h6⟩
   ·
    exact er_word 8 _ _ _ hp2 h5
   ·
    cases h6
theorem er_rules : ∀ (n : Nat) (acc : List Rl), Er (fun sz s => rulesE sz n acc s)
 | 0, acc => by
  intro sz s z h hf
  simp [rulesE] at hf
 | n + 1, acc => by
  intro sz s z h hf
  dsimp only at hf
  rw [rulesE] at hf
  split at hf
  ·
   cases hf
  ·
   rcases bindE_bad hf with h1 | ⟨a, s1, h1, h2⟩
   ·
    exact er_rule _ _ _ h h1
   ·
    exact er_rules n _ _ _ _ (h.suf (took_rule sz s.1 s.2.1 s.2.2 a s1.1 s1.2.1 s1.2.2 h1).1) h2
theorem stand_pl {bs : List UInt8} : ∀ (ws : List Wd) (a : Nat), Stand bs a ws → Pl bs.length ws
 | [], a, _, x, hx => by cases hx
 | w :: ws, a, h, x, hx => by
  rcases List.mem_cons.1 hx with rfl | hx
  ·
   have := h.2.2.1
   omega
  ·
   exact stand_pl ws _ h.2.2.2.2 x hx
theorem parse_place {N : List ByteArray} {text : List UInt8} {rs : List Rl} {ns : List ByteArray} {y z : Nat} (h : (rs, ns, y, z) = parseL N text) : y ≤ text.length := by
 unfold parseL at h
 cases hw : wordsL text with
 | mk ws yz =>
  obtain ⟨y0, z0⟩ := yz
  rw [hw] at h
  dsimp only at h
  have hfacts : y0 ≤ text.length ∧ Pl text.length ws := by
   unfold wordsL at hw
   split at hw
   ·
    simp only [Prod.mk.injEq] at hw
    obtain ⟨rfl, rfl, rfl⟩ := hw
    exact ⟨Nat.zero_le _, fun w hw => by cases hw⟩
   ·
    have hst : Stand text 0 (lexG 0 text).1 := by simpa using lexG_stand [] text
    split at hw
    ·
     rename_i he
     simp only [Prod.mk.injEq] at hw
     obtain ⟨rfl, rfl, rfl⟩ := hw
     rw [he] at hst
     exact ⟨Nat.zero_le _, stand_pl _ 0 hst⟩
    ·
     rename_i k he
     simp only [Prod.mk.injEq] at hw
     obtain ⟨rfl, rfl, rfl⟩ := hw
     have := lexG_pos 0 text (k := k) (by rw [he])
     exact ⟨by omega, fun w hw => by cases hw⟩
  by_cases hz : z0 ≠ 0
  ·
   rw [if_pos hz] at h
   simp only [Prod.mk.injEq] at h
   obtain ⟨rfl, rfl, rfl, rfl⟩ := h
   exact hfacts.1
  ·
   rw [if_neg hz] at h
   split at h
   ·
    simp only [Prod.mk.injEq] at h
    obtain ⟨rfl, rfl, rfl, rfl⟩ := h
    exact Nat.zero_le _
   ·
    rename_i e a he
    simp only [Prod.mk.injEq] at h
    obtain ⟨rfl, rfl, rfl, rfl⟩ := h
    exact er_rules _ [] _ _ _ hfacts.2 he
end Go.Proofs.YtoigpbajefkpoaaGreatDoor

set_option linter.unusedVariables false
set_option linter.unusedSimpArgs false
namespace Go.Proofs.YtoigpbajefkpoaaGreatDoor.parseBack
open Go Go.RowKit

set_option maxRecDepth 100000 in
set_option maxHeartbeats 16000000 in
theorem walk {P : World → Prop} (ok : ParsesOk P) (A : Option Addr) (n c : Nat) (l : List ByteArray) (s : ByteArray) (w : World) (hP : P w) (hr : Rd w w.heap.size 1 A n (l.map sv)) :
  Calls Tryz.prog 5 #[.slice A n c, sv s] w fun e w' => e = .returned (.bool true) ∧ Below w.heap.size w w' := by
 have HPW := Lib.hid hP
 clear hP
 by_cases hbig : 4096 < s.size
 ·
  have hd : decide ((4096 : Int) < (s.size : Int)) = true := by simp; omega
  go_enter Tryz.func5, Tryz.ntmps5
  repeat (first | go_skip | go_guarded | go_step)
  refine (pWorks_any ok w HPW.out).mono ?_
  rintro e w1 ⟨rfl, hb⟩
  dsimp only
  repeat (first | go_skip | go_guarded | go_step)
  go_ret
  exact ⟨rfl, hb⟩
 ·
  have hd : decide ((4096 : Int) < (s.size : Int)) = false := by simp; omega
  have HR := Lib.hid hr
  have hlen := tb_len s
  have HLN := Lib.hid (show l.length = n by simpa using hr.len1)
  go_enter Tryz.func5, Tryz.ntmps5
  repeat (first | go_skip | go_guarded | go_step)
  refine (table_any A n c l w HR.out).mono ?_
  rintro e w1 ⟨hb1, ⟨htb, g, F, rfl, ht1, hg1, hs1, hf1⟩ | ⟨htb, rfl⟩⟩
  ·
   have HB1 := Lib.hid hb1
   have HT1 := Lib.hid ht1
   have HG1 := Lib.hid (hg1.mono (m := 4096) (by omega))
   have HF1 := Lib.hid hf1
   clear hb1 ht1 hg1 hs1 hf1 htb hr
   dsimp only
   repeat (first | go_skip | go_guarded | go_step)
   refine (ok.parse g F l s w1 (ok.later _ _ HPW.out HB1.out) HT1.out HG1.out (by omega)).mono ?_
   rintro e w2 ⟨A2, n2, c2, Q, rs, ns, y, z, F2, rfl, hnc, hn2, hrd, ht2, hT2, hF2, hpa⟩
   have hfine := parseL_fine HG1.out hpa
   have HPL := Lib.hid (parse_place hpa)
   have HNS := Lib.hid hfine.1
   have HFI := Lib.hid hfine.2.2.1
   have HER := Lib.hid hfine.2.2.2
   have HS := Lib.hid (fine_small hfine.2.2.1)
   have HRD := Lib.hid hrd
   have HT2 := Lib.hid ht2
   have HB2 := Lib.hid (HB1.out.trans (hT2.below (fun k _ h => HF1.out k h) HB1.out.size))
   have HF2 := Lib.hid (show ∀ k, F2 k → w.heap.size ≤ k from fun k h => (hF2 k h).elim (HF1.out k) (fun h => Nat.le_trans HB1.out.size h))
   have HPA := Lib.hid hpa
   have HC2 := Lib.hid hnc
   have HN2 := Lib.hid hn2
   have HNL2 := Lib.hid (show rs.length = n2 from (hrd w2 (Turn.refl _ _)).lenL)
   clear hnc hn2 hrd ht2 hT2 hF2 hpa hfine
   by_cases hz : z = 0
   ·
    subst hz
    obtain ⟨p1, p2, p3⟩ := parse_print HG1.out (by omega) HPA.out
    obtain ⟨X, hX⟩ : ∃ X : ByteArray, X = ⟨(rs.flatMap (ruleL ns)).toArray⟩ := ⟨_, rfl⟩
    have hXs : X.size ≤ 65536 := by rw [hX]; exact p2
    have HP1 := Lib.hid (show printL ns rs = (tb X, 0) by rw [p1, hX])
    have HP3 := Lib.hid (show parseL ns (tb X) = (rs, ns, 0, 0) by rw [hX]; exact p3)
    have HXL := Lib.hid (show strV (tb X) = sv X from rfl)
    clear p1 p2 p3 hX
    dsimp only
    repeat (first | go_skip | go_guarded | go_step)
    refine (ok.print g F2 ns A2 n2 c2 Q rs w2 (ok.later _ _ HPW.out HB2.out) HT2.out HNS.out (HRD.out w2 (Turn.refl _ _)) HC2.out HN2.out HS.out (by rw [HP1.out]; show (tb X).length ≤ _; rw [tb_len]; omega)).mono ?_
    rintro e w3 ⟨rfl, hb3⟩
    rw [HP1.out]
    have HW3 := Lib.hid (Turn.ofBelow (G := fun k => F2 k ∨ k < w1.heap.size) hb3)
    have HB3 := Lib.hid (HB2.out.trans (hb3.mono HB2.out.size))
    have HT3 := Lib.hid (HT2.out.later hb3)
    clear hb3
    dsimp only
    rw [HXL.out]
    repeat (first | go_skip | go_guarded | go_step)
    refine (tLen g F2 ns w3 HT3.out).mono ?_
    rintro e w3' ⟨rfl, rfl⟩
    dsimp only
    repeat (first | go_skip | go_guarded | go_step)
    refine (ok.parse g F2 ns X w3 (ok.later _ _ HPW.out HB3.out) HT3.out HNS.out (by omega)).mono ?_
    rintro e w4 ⟨A5, n5, c5, Q5, rs5, ns5, y5, z5, F5, rfl, hnc5, hn5, hrd5, ht5, hT5, hF5, hpa5⟩
    rw [HP3.out] at hpa5
    simp only [Prod.mk.injEq] at hpa5
    obtain ⟨rfl, rfl, rfl, rfl⟩ := hpa5
    have HRA := Lib.hid ((HRD.out w4 (HW3.out.then_ hT5 (fun _ _ h => Or.inl h))).more (Nat.le_trans HW3.out.size hT5.size))
    have HRB := Lib.hid (hrd5 w4 (Turn.refl _ _))
    have HT4 := Lib.hid ht5
    have HB4 := Lib.hid (HB3.out.trans (hT5.below (fun k _ h => HF2.out k h) HB3.out.size))
    clear hrd5 ht5 hT5 hF5 HRD
    dsimp only
    repeat (first | go_skip | go_guarded | go_step)
    go_loopw [16] (fun q wr => ∃ (i : Nat), i ≤ n2 ∧ q = .int .i64 (i : Int) ∧ Below w4.heap.size w4 wr) (fun q _ => n2 - (intOf q).toNat)
    case atStart => exact ⟨0, by omega, rfl, Below.refl _ _⟩
    case round =>
     rename World => wr
     obtain ⟨i, hi, rfl, hbr⟩ := hrel
     have HBR := Lib.hid hbr
     have hrs := hbr.size
     have hn2b := HN2.out
     clear hbr
     by_cases hlt : i < n2
     ·
      have hci : (i : Int) < (n2 : Int) := by omega
      obtain ⟨b, o, sd, tm, p, as_, M, Ai, ni, ci, Bi, mi, di, Ri, hA1, hbb, hx, q0, q1, q2, q3, q4, q5, hta, hka⟩ := HRA.out.at_ hlt
      subst hA1
      have Hx0 := (HBR.out.cell hbb).trans q0
      have Hx1 := (HBR.out.cell hbb).trans q1
      have Hx2 := (HBR.out.cell hbb).trans q2
      have Hx3 := (HBR.out.cell hbb).trans q3
      have Hx4 := (HBR.out.cell hbb).trans q4
      have Hx5 := (HBR.out.cell hbb).trans q5
      have hmem := HS.out _ (List.mem_of_getElem? hx)
      have hfr := HFI.out _ (List.mem_of_getElem? hx)
      have HMY := Lib.hid hfr.1
      have HCO := Lib.hid hfr.2.1
      have hni : ni ≤ 1000 := by have h1 := hmem.1; have h2 := rdT_len hta; dsimp only at h1; omega
      have hmi : mi ≤ 1000 := by have h1 := hmem.2.1; have h2 := hka.lenL; dsimp only at h1; omega
      have HMM := Lib.hid (show ∀ x ∈ M, x.2.2.2.2.length ≤ 1000 from hmem.2.2)
      have HTA := Lib.hid hta
      have HKA := Lib.hid hka
      have HQ := Lib.hid (And.intro q0 (And.intro q1 (And.intro q2 (And.intro q3 (And.intro q4 q5)))))
      clear hx q0 q1 q2 q3 q4 q5 hmem hfr hta hka
      repeat (first | go_skip | go_guarded | go_step)
      refine (rRMay_any sd tm p Ai ni ci as_ Bi mi di Ri M wr ((HTA.out.below HBR.out).more hrs) ((HKA.out.below HBR.out).more hrs) (by omega) (by omega) (fun x hx => by have := HMM.out x hx; omega)).mono ?_
      rintro e wr1 ⟨rfl, hb5⟩
      rw [HMY.out]
      have HB5 := Lib.hid (HBR.out.trans (hb5.mono hrs))
      obtain ⟨q0, q1, q2, q3, q4, q5⟩ := HQ.out
      have Hy0 := (HB5.out.cell hbb).trans q0
      have Hy1 := (HB5.out.cell hbb).trans q1
      have Hy2 := (HB5.out.cell hbb).trans q2
      have Hy3 := (HB5.out.cell hbb).trans q3
      have Hy4 := (HB5.out.cell hbb).trans q4
      have Hy5 := (HB5.out.cell hbb).trans q5
      clear hb5 q0 q1 q2 q3 q4 q5 Hx0 Hx1 Hx2 Hx3 Hx4 Hx5
      dsimp only
      repeat (first | go_skip | go_guarded | go_step)
      refine (rCome_any sd tm p Ai ni ci as_ Bi mi di Ri M wr1 ((HTA.out.below HB5.out).more HB5.out.size) ((HKA.out.below HB5.out).more HB5.out.size) hni hmi HMM.out).mono ?_
      rintro e wr2 ⟨rfl, hb6⟩
      rw [HCO.out]
      have HB6 := Lib.hid (HB5.out.trans (hb6.mono HB5.out.size))
      clear hb6 Hy0 Hy1 Hy2 Hy3 Hy4 Hy5
      dsimp only
      repeat (first | go_skip | go_guarded | go_step)
      go_roundw
      case rel => exact ⟨i + 1, by omega, by go_num, HB6.out⟩
      case measure => simp [intOf]; omega
     ·
      obtain rfl : i = n2 := by omega
      have hci : ¬ (i : Int) < (i : Int) := by omega
      repeat (first | go_skip | go_guarded | go_step)
      refine (rSame8_any A2 i c2 Q _ A5 n5 c5 Q5 _ wr ((HRA.out.below HBR.out).more hrs) ((HRB.out.below HBR.out).more hrs) (by have := HN2.out; omega) HS.out).mono ?_
      rintro e wr1 ⟨rfl, hb5⟩
      rw [decide_eq_true rfl]
      have HB5 := Lib.hid (HBR.out.trans (hb5.mono hrs))
      have HT5 := Lib.hid (HT4.out.later HB5.out)
      clear hb5
      dsimp only
      repeat (first | go_skip | go_guarded | go_step)
      refine (tLen g F5 _ wr1 HT5.out).mono ?_
      rintro e wr1' ⟨rfl, rfl⟩
      dsimp only
      repeat (first | go_skip | go_guarded | go_step)
      refine (pWorks_any ok wr1 (ok.later _ _ HPW.out (HB4.out.trans (HB5.out.mono HB4.out.size)))).mono ?_
      rintro e w7 ⟨rfl, hb7⟩
      have HB7 := Lib.hid ((HB4.out.trans (HB5.out.mono HB4.out.size)).trans (hb7.mono (Nat.le_trans HB4.out.size HB5.out.size)))
      clear hb7
      dsimp only
      repeat (first | go_skip | go_guarded | go_step)
      go_ret
      exact ⟨rfl, HB7.out⟩
   ·
    have hz1 : ((z : Int) != 0) = true := by rw [bne_iff_ne]; omega
    obtain ⟨e1, e2⟩ := HER.out hz
    subst e1 e2
    have hn0 : n2 = 0 := by have := HNL2.out; simpa using this.symm
    subst hn0
    have hy0 : (0 : Int) ≤ (y : Int) := by omega
    have hyl : (y : Int) ≤ (s.size : Int) := by have := HPL.out; omega
    have hy1 : decide ((0 : Int) ≤ (y : Int)) = true := decide_eq_true hy0
    have hy2 : decide ((y : Int) ≤ (s.size : Int)) = true := decide_eq_true hyl
    clear hz
    dsimp only
    repeat (first | go_skip | go_guarded | go_step)
    refine (tLen g F2 _ w2 HT2.out).mono ?_
    rintro e w3 ⟨rfl, rfl⟩
    rw [HLN.out]
    dsimp only
    repeat (first | go_skip | go_guarded | go_step)
    refine (pWorks_any ok w2 (ok.later _ _ HPW.out HB2.out)).mono ?_
    rintro e w4 ⟨rfl, hb4⟩
    have HB4 := Lib.hid (HB2.out.trans (hb4.mono HB2.out.size))
    clear hb4
    dsimp only
    repeat (first | go_skip | go_guarded | go_step)
    go_ret
    exact ⟨rfl, HB4.out⟩
  ·
   dsimp only
   repeat (first | go_skip | go_guarded | go_step)
   refine (pWorks_any ok w1 (ok.later _ _ HPW.out hb1)).mono ?_
   rintro e w2 ⟨rfl, hb⟩
   dsimp only
   repeat (first | go_skip | go_guarded | go_step)
   go_ret
   exact ⟨rfl, hb1.trans (hb.mono hb1.size)⟩
end Go.Proofs.YtoigpbajefkpoaaGreatDoor.parseBack

set_option linter.unusedVariables false
set_option linter.unusedSimpArgs false
namespace Go.Proofs.YtoigpbajefkpoaaGreatDoor
open Go Go.RowKit

/-- The same word, elsewhere. -/
def mv (d : Nat) (w : Wd) : Wd := (w.1, w.2.1, w.2.2 + d)
theorem kind_mv (d : Nat) (l : List Wd) : kindE (l.map (mv d)) = kindE l := by cases l <;> rfl
theorem txE_mv (d : Nat) (l : List Wd) : txE (l.map (mv d)) = txE l := by cases l <;> rfl
theorem tail_mv (d : Nat) (l : List Wd) : (l.map (mv d)).tail = l.tail.map (mv d) := by cases l <;> rfl
/-- The table is the same, or one that has all names of the other ahead. -/
def Go2 (N N' M M' : List ByteArray) : Prop := (M = N ∧ M' = N') ∨ (∃ Y, M = N' ++ Y ∧ Good 4096 M ∧ M' = M)
theorem Go2.mid {N N1 N' M M' : List ByteArray} (h : Go2 N N' M M') (hz : ∃ Z, N' = N1 ++ Z) : ∃ M1, Go2 N N1 M M1 ∧ Go2 N1 N' M1 M' := by
 rcases h with ⟨rfl, rfl⟩ | ⟨Y, h1, h2, rfl⟩
 ·
  exact ⟨N1, .inl ⟨rfl, rfl⟩, .inl ⟨rfl, rfl⟩⟩
 ·
  obtain ⟨Z, hZ⟩ := hz
  exact ⟨M', .inr ⟨Z ++ Y, by rw [h1, hZ, List.append_assoc], h2, rfl⟩, .inr ⟨Y, h1, h2, rfl⟩⟩
theorem Go2.same {N M M' : List ByteArray} (h : Go2 N N M M') : M' = M := by
 rcases h with ⟨rfl, rfl⟩ | ⟨Y, h1, h2, rfl⟩ <;> rfl
def Sim (d : Nat) {α : Type} (f : Nat → PS → Except PE (α × PS)) : Prop :=
 ∀ sz l N V v r N' V', f sz (l, N, V) = .ok (v, (r, N', V')) → (∃ Z, N' = N ++ Z) ∧ ∀ sz' M M', Go2 N N' M M' → f sz' (l.map (mv d), M, V) = .ok (v, (r.map (mv d), M', V'))
theorem sim_next {d : Nat} {l : List Wd} : (l.tail).map (mv d) = (l.map (mv d)).tail := (tail_mv d l).symm
theorem sim_word (d k : Nat) : Sim d (fun sz s => wordE sz k s) := by
 intro sz l N V v r N' V' h
 dsimp only at h
 unfold wordE at h
 split at h
 ·
  rename_i hk
  simp only [Except.ok.injEq, Prod.mk.injEq, nextE] at h
  obtain ⟨rfl, rfl, rfl, rfl⟩ := h
  refine ⟨⟨[], by simp⟩, fun sz' M M' hg => ?_⟩
  have := hg.same
  subst this
  dsimp only at hk ⊢
  unfold wordE
  dsimp only
  rw [if_pos (by rw [kind_mv]; exact hk), txE_mv, sim_next]
 ·
  cases h
theorem sim_name (d : Nat) : Sim d nameE := by
 intro sz l N V v r N' V' h
 unfold nameE at h
 dsimp only at h
 split at h
 ·
  rename_i hk
  split at h
  ·
   rename_i i hi
   simp only [Except.ok.injEq, Prod.mk.injEq, nextE] at h
   obtain ⟨rfl, rfl, rfl, rfl⟩ := h
   refine ⟨⟨[], by simp⟩, fun sz' M M' hg => ?_⟩
   have hs := hg.same
   subst hs
   have hf : findO M' (txE l) = some i := by
    rcases hg with ⟨rfl, _⟩ | ⟨Y, h1, h2, _⟩
    ·
     exact hi
    ·
     refine find_good h2 ?_
     rw [h1, List.getElem?_append_left (findO_lt hi)]
     exact findO_get hi
   unfold nameE
   dsimp only
   rw [if_pos (by rw [kind_mv]; exact hk), txE_mv, hf]
   dsimp only [nextE]
   rw [tail_mv]
  ·
   rename_i hi
   split at h
   ·
    cases h
   ·
    rename_i hl
    simp only [Except.ok.injEq, Prod.mk.injEq] at h
    obtain ⟨rfl, rfl, rfl, rfl⟩ := h
    refine ⟨⟨[txE l], rfl⟩, fun sz' M M' hg => ?_⟩
    rcases hg with ⟨rfl, rfl⟩ | ⟨Y, h1, h2, rfl⟩
    ·
     unfold nameE
     dsimp only
     rw [if_pos (by rw [kind_mv]; exact hk), txE_mv, hi]
     dsimp only
     rw [if_neg hl, tail_mv]
    ·
     have hf : findO M' (txE l) = some N.length := by
      refine find_good h2 ?_
      rw [h1, List.append_assoc, List.getElem?_append_right (Nat.le_refl _)]
      simp
     unfold nameE
     dsimp only
     rw [if_pos (by rw [kind_mv]; exact hk), txE_mv, hf]
     dsimp only [nextE]
     rw [tail_mv]
 ·
  cases h
theorem sim_term (d : Nat) : Sim d termE := by
 intro sz l N V v r N' V' h
 unfold termE at h
 dsimp only at h
 split at h
 ·
  rename_i hk
  split at h
  ·
   rename_i i hi
   simp only [Except.ok.injEq, Prod.mk.injEq, nextE] at h
   obtain ⟨rfl, rfl, rfl, rfl⟩ := h
   refine ⟨⟨[], by simp⟩, fun sz' M M' hg => ?_⟩
   have hs := hg.same
   subst hs
   unfold termE
   dsimp only
   rw [if_pos (by rw [kind_mv]; exact hk), txE_mv, hi]
   dsimp only [nextE]
   rw [tail_mv]
  ·
   rename_i hi
   split at h
   ·
    cases h
   ·
    rename_i hl
    simp only [Except.ok.injEq, Prod.mk.injEq] at h
    obtain ⟨rfl, rfl, rfl, rfl⟩ := h
    refine ⟨⟨[], by simp⟩, fun sz' M M' hg => ?_⟩
    have hs := hg.same
    subst hs
    unfold termE
    dsimp only
    rw [if_pos (by rw [kind_mv]; exact hk), txE_mv, hi]
    dsimp only
    rw [if_neg hl, tail_mv]
 ·
  rename_i hk
  obtain ⟨i, ⟨r1, N1, V1⟩, h1, h2⟩ := bindE_ok h
  simp only [Except.ok.injEq, Prod.mk.injEq] at h2
  obtain ⟨rfl, rfl, rfl, rfl⟩ := h2
  obtain ⟨a1, a2⟩ := sim_name d _ _ _ _ _ _ _ _ h1
  refine ⟨a1, fun sz' M M' hg => ?_⟩
  unfold termE
  dsimp only
  rw [if_neg (by rw [kind_mv]; exact hk), bindE_of (a2 sz' M M' hg)]
theorem grow2 {N N1 N' : List ByteArray} (h : ∃ Z, N1 = N ++ Z) (k : ∃ Z, N' = N1 ++ Z) : ∃ Z, N' = N ++ Z := by
 obtain ⟨Z, rfl⟩ := h
 obtain ⟨Z2, rfl⟩ := k
 exact ⟨Z ++ Z2, by rw [List.append_assoc]⟩
theorem sim_args (d : Nat) : ∀ (n : Nat) (acc : List Tm), Sim d (fun sz s => argsE sz n acc s)
 | 0, acc => by
  intro sz l N V v r N' V' h
  simp [argsE] at h
 | n + 1, acc => by
  intro sz l N V v r N' V' h
  dsimp only at h
  rw [argsE] at h
  split at h
  ·
   cases h
  ·
   rename_i h6
   obtain ⟨t, ⟨r1, N1, V1⟩, h1, h2⟩ := bindE_ok h
   obtain ⟨a1, a2⟩ := sim_term d _ _ _ _ _ _ _ _ h1
   dsimp only at h2 h6
   split at h2
   ·
    rename_i h7
    obtain ⟨b1, b2⟩ := sim_args d n _ _ _ _ _ _ _ _ _ h2
    refine ⟨grow2 a1 b1, fun sz' M M' hg => ?_⟩
    obtain ⟨M1, g1, g2⟩ := hg.mid b1
    have := b2 sz' M1 M' g2
    dsimp only at this ⊢
    rw [argsE, if_neg (by dsimp only; rw [kind_mv]; exact h6), bindE_of (a2 sz' M M1 g1), if_pos (by dsimp only; rw [kind_mv]; exact h7)]
    dsimp only [nextE]
    rw [tail_mv]
    exact this
   ·
    rename_i h7
    obtain ⟨y, ⟨r2, N2, V2⟩, h3, h4⟩ := bindE_ok h2
    simp only [Except.ok.injEq, Prod.mk.injEq] at h4
    obtain ⟨rfl, rfl, rfl, rfl⟩ := h4
    obtain ⟨b1, b2⟩ := sim_word d 6 _ _ _ _ _ _ _ _ h3
    refine ⟨grow2 a1 b1, fun sz' M M' hg => ?_⟩
    obtain ⟨M1, g1, g2⟩ := hg.mid b1
    have := b2 sz' M1 M' g2
    dsimp only at this ⊢
    rw [argsE, if_neg (by dsimp only; rw [kind_mv]; exact h6), bindE_of (a2 sz' M M1 g1), if_neg (by dsimp only; rw [kind_mv]; exact h7), bindE_of this]
theorem sim_atom (d : Nat) : Sim d atomE := by
 intro sz l N V v r N' V' h
 unfold atomE at h
 obtain ⟨p, ⟨r1, N1, V1⟩, h1, h2⟩ := bindE_ok h
 obtain ⟨a1, a2⟩ := sim_name d _ _ _ _ _ _ _ _ h1
 dsimp only at h2
 split at h2
 ·
  rename_i h5
  obtain ⟨y, ⟨r2, N2, V2⟩, h3, h4⟩ := bindE_ok h2
  simp only [Except.ok.injEq, Prod.mk.injEq] at h4
  obtain ⟨rfl, rfl, rfl, rfl⟩ := h4
  obtain ⟨b1, b2⟩ := sim_args d 7 [] _ _ _ _ _ _ _ _ h3
  refine ⟨grow2 a1 b1, fun sz' M M' hg => ?_⟩
  obtain ⟨M1, g1, g2⟩ := hg.mid b1
  have := b2 sz' M1 M' g2
  dsimp only at this
  unfold atomE
  rw [bindE_of (a2 sz' M M1 g1), if_pos (by dsimp only; rw [kind_mv]; exact h5)]
  dsimp only [nextE]
  rw [tail_mv, bindE_of this]
 ·
  rename_i h5
  simp only [Except.ok.injEq, Prod.mk.injEq] at h2
  obtain ⟨rfl, rfl, rfl, rfl⟩ := h2
  refine ⟨a1, fun sz' M M' hg => ?_⟩
  unfold atomE
  rw [bindE_of (a2 sz' M M' hg), if_neg (by dsimp only; rw [kind_mv]; exact h5)]
theorem sim_say (d : Nat) : Sim d sayE := by
 intro sz l N V v r N' V' h
 unfold sayE at h
 dsimp only at h
 split at h
 ·
  rename_i hc
  obtain ⟨t, ⟨r1, N1, V1⟩, h1, h2⟩ := bindE_ok h
  obtain ⟨a1, a2⟩ := sim_term d _ _ _ _ _ _ _ _ h1
  obtain ⟨y, ⟨r2, N2, V2⟩, h3, h4⟩ := bindE_ok h2
  obtain ⟨b1, b2⟩ := sim_word d 4 _ _ _ _ _ _ _ _ h3
  obtain ⟨a, ⟨r3, N3, V3⟩, h5, h6⟩ := bindE_ok h4
  obtain ⟨c1, c2⟩ := sim_atom d _ _ _ _ _ _ _ _ h5
  simp only [Except.ok.injEq, Prod.mk.injEq] at h6
  obtain ⟨rfl, rfl, rfl, rfl⟩ := h6
  refine ⟨grow2 (grow2 a1 b1) c1, fun sz' M M' hg => ?_⟩
  obtain ⟨M1, g1, g2⟩ := hg.mid (grow2 b1 c1)
  obtain ⟨M2, g3, g4⟩ := g2.mid c1
  have := b2 sz' M1 M2 g3
  dsimp only at this
  unfold sayE
  dsimp only
  rw [if_pos (by rw [kind_mv, tail_mv, kind_mv]; exact hc), bindE_of (a2 sz' M M1 g1), bindE_of this, bindE_of (c2 sz' M2 M' g4)]
 ·
  rename_i hc
  obtain ⟨a, ⟨r1, N1, V1⟩, h1, h2⟩ := bindE_ok h
  obtain ⟨a1, a2⟩ := sim_atom d _ _ _ _ _ _ _ _ h1
  simp only [Except.ok.injEq, Prod.mk.injEq] at h2
  obtain ⟨rfl, rfl, rfl, rfl⟩ := h2
  refine ⟨a1, fun sz' M M' hg => ?_⟩
  unfold sayE
  dsimp only
  rw [if_neg (by rw [kind_mv, tail_mv, kind_mv]; exact hc), bindE_of (a2 sz' M M' hg)]
theorem sim_conds (d : Nat) : ∀ (n : Nat) (acc : List Co), Sim d (fun sz s => condsE sz n acc s)
 | 0, acc => by
  intro sz l N V v r N' V' h
  simp [condsE] at h
 | n + 1, acc => by
  intro sz l N V v r N' V' h
  dsimp only at h
  rw [condsE] at h
  split at h
  ·
   cases h
  ·
   rename_i h8
   obtain ⟨y, ⟨r1, N1, V1⟩, h1, h2⟩ := bindE_ok h
   dsimp only at h1 h2 h8
   have hsay : (∃ Z, N1 = N ++ Z) ∧ ∀ sz' M M1, Go2 N N1 M M1 → sayE sz' (if kindE (l.map (mv d)) = 3 then nextE (l.map (mv d), M, V) else (l.map (mv d), M, V)) = .ok (y, (r1.map (mv d), M1, V1)) := by
    by_cases h3 : kindE l = 3
    ·
     rw [if_pos h3] at h1
     obtain ⟨a1, a2⟩ := sim_say d _ _ _ _ _ _ _ _ h1
     refine ⟨a1, fun sz' M M1 hg => ?_⟩
     rw [if_pos (by rw [kind_mv]; exact h3)]
     dsimp only [nextE]
     rw [tail_mv]
     exact a2 sz' M M1 hg
    ·
     rw [if_neg h3] at h1
     obtain ⟨a1, a2⟩ := sim_say d _ _ _ _ _ _ _ _ h1
     refine ⟨a1, fun sz' M M1 hg => ?_⟩
     rw [if_neg (by rw [kind_mv]; exact h3)]
     exact a2 sz' M M1 hg
   obtain ⟨a1, a2⟩ := hsay
   split at h2
   ·
    rename_i h7
    obtain ⟨b1, b2⟩ := sim_conds d n _ _ _ _ _ _ _ _ _ h2
    refine ⟨grow2 a1 b1, fun sz' M M' hg => ?_⟩
    obtain ⟨M1, g1, g2⟩ := hg.mid b1
    have h10 := a2 sz' M M1 g1
    have := b2 sz' M1 M' g2
    dsimp only at this ⊢
    rw [condsE]
    dsimp only
    rw [if_neg (by rw [kind_mv]; exact h8), bindE_of h10, if_pos (by dsimp only; rw [kind_mv]; exact h7), kind_mv]
    dsimp only [nextE]
    rw [tail_mv]
    exact this
   ·
    rename_i h7
    simp only [Except.ok.injEq, Prod.mk.injEq] at h2
    obtain ⟨rfl, rfl, rfl, rfl⟩ := h2
    refine ⟨a1, fun sz' M M' hg => ?_⟩
    have h10 := a2 sz' M M' hg
    dsimp only
    rw [condsE]
    dsimp only
    rw [if_neg (by rw [kind_mv]; exact h8), bindE_of h10, if_neg (by dsimp only; rw [kind_mv]; exact h7), kind_mv]
theorem sim_body (d : Nat) : Sim d bodyE := by
 intro sz l N V v r N' V' h
 unfold bodyE at h
 dsimp only at h
 split at h
 ·
  rename_i h9
  obtain ⟨b1, b2⟩ := sim_conds d 9 [] _ _ _ _ _ _ _ _ h
  refine ⟨b1, fun sz' M M' hg => ?_⟩
  have := b2 sz' M M' hg
  dsimp only at this
  unfold bodyE
  dsimp only
  rw [if_pos (by rw [kind_mv]; exact h9)]
  dsimp only [nextE]
  rw [tail_mv]
  exact this
 ·
  rename_i h9
  simp only [Except.ok.injEq, Prod.mk.injEq] at h
  obtain ⟨rfl, rfl, rfl, rfl⟩ := h
  refine ⟨⟨[], by simp⟩, fun sz' M M' hg => ?_⟩
  have hs := hg.same
  subst hs
  unfold bodyE
  dsimp only
  rw [if_neg (by rw [kind_mv]; exact h9)]
theorem sim_rule (d : Nat) : Sim d ruleE := by
 intro sz l N V v r N' V' h
 unfold ruleE at h
 dsimp only at h
 obtain ⟨y, ⟨r1, N1, V1⟩, h1, h2⟩ := bindE_ok h
 obtain ⟨a1, a2⟩ := sim_say d _ _ _ _ _ _ _ _ h1
 obtain ⟨b, ⟨r2, N2, V2⟩, h3, h4⟩ := bindE_ok h2
 obtain ⟨b1, b2⟩ := sim_body d _ _ _ _ _ _ _ _ h3
 obtain ⟨x, ⟨r3, N3, V3⟩, h5, h6⟩ := bindE_ok h4
 obtain ⟨c1, c2⟩ := sim_word d 8 _ _ _ _ _ _ _ _ h5
 simp only [Except.ok.injEq, Prod.mk.injEq] at h6
 obtain ⟨rfl, rfl, rfl, rfl⟩ := h6
 refine ⟨grow2 (grow2 a1 b1) c1, fun sz' M M' hg => ?_⟩
 obtain ⟨M1, g1, g2⟩ := hg.mid (grow2 b1 c1)
 obtain ⟨M2, g3, g4⟩ := g2.mid c1
 have := c2 sz' M2 M' g4
 dsimp only at this
 unfold ruleE
 dsimp only
 rw [bindE_of (a2 sz' M M1 g1), bindE_of (b2 sz' M1 M2 g3), bindE_of this]
/-- Words, one rule behind the other. -/
inductive Pr : List Wd → List ByteArray → List Rl → List ByteArray → Prop
 | nil (N : List ByteArray) : Pr [] N [] N
 | cons {l l1 : List Wd} {N N1 N' : List ByteArray} {r : Rl} {rs : List Rl} (V' : List ByteArray) (h : ∀ sz V, ruleE sz (l, N, V) = .ok (r, (l1, N1, V'))) (hl : l ≠ []) (ht : Pr l1 N1 rs N') : Pr l N (r :: rs) N'
theorem rule_anysz {sz : Nat} {l r : List Wd} {N V N' V' : List ByteArray} {v : Rl} (h : ruleE sz (l, N, V) = .ok (v, (r, N', V'))) : ∀ sz' V2, ruleE sz' (l, N, V2) = .ok (v, (r, N', V')) := by
 intro sz' V2
 have h2 := (took_rule sz l N V v r N' V' h).2 sz' [] V2
 simpa using h2
theorem pr_of {sz : Nat} : ∀ (n : Nat) (acc out : List Rl) (s s' : PS), s.1.length ≤ n → rulesE sz n acc s = .ok (out, s') → ∃ rs, out = acc ++ rs ∧ Pr s.1 s.2.1 rs s'.2.1
 | 0, acc, out, s, s', hl, h => by
  rw [rulesE] at h
  simp only [Except.ok.injEq, Prod.mk.injEq] at h
  obtain ⟨rfl, rfl⟩ := h
  have : s.1 = [] := List.eq_nil_of_length_eq_zero (by omega)
  exact ⟨[], by simp, by rw [this]; exact Pr.nil _⟩
 | n + 1, acc, out, s, s', hl, h => by
  rw [rulesE] at h
  split at h
  ·
   rename_i he
   simp only [Except.ok.injEq, Prod.mk.injEq] at h
   obtain ⟨rfl, rfl⟩ := h
   exact ⟨[], by simp, by rw [he]; exact Pr.nil _⟩
  ·
   rename_i he
   obtain ⟨r, s1, h1, h2⟩ := bindE_ok h
   have hlt := rules_len h1
   obtain ⟨rs, rfl, hp⟩ := pr_of n _ out s1 s' (by omega) h2
   refine ⟨r :: rs, by simp, Pr.cons s1.2.2 (rule_anysz (V := s.2.2) h1) he hp⟩
theorem of_pr {l : List Wd} {N N' : List ByteArray} {rs : List Rl} (h : Pr l N rs N') : ∀ (sz n : Nat) (acc : List Rl) (V : List ByteArray), rs.length ≤ n → ∃ V', rulesE sz n acc (l, N, V) = .ok (acc ++ rs, ([], N', V')) := by
 induction h with
 | nil N =>
  intro sz n acc V hn
  refine ⟨V, ?_⟩
  rw [rules_end (by rfl)]
  simp
 | cons V' h hl ht ih =>
  intro sz n acc V hn
  obtain ⟨m, rfl⟩ : ∃ m, n = m + 1 := ⟨n - 1, by simp at hn; omega⟩
  simp only [List.length_cons] at hn
  obtain ⟨V2, h2⟩ := ih sz m (acc ++ [_]) V' (by omega)
  refine ⟨V2, ?_⟩
  rw [rules_go (by exact hl), bindE_of (h sz V), h2]
  simp
theorem Pr.len {l : List Wd} {N N' : List ByteArray} {rs : List Rl} (h : Pr l N rs N') : rs.length ≤ l.length := by
 induction h with
 | nil N => exact Nat.le_refl _
 | cons V' h hl ht ih =>
  have := rules_len (h 0 [])
  simp only [List.length_cons]
  dsimp only at this
  omega
theorem Pr.app {l l2 : List Wd} {N N1 N2 : List ByteArray} {rs rs2 : List Rl} (h : Pr l N rs N1) (h2 : Pr l2 N1 rs2 N2) : Pr (l ++ l2) N (rs ++ rs2) N2 := by
 induction h with
 | nil N => exact h2
 | cons V' h hl ht ih => exact Pr.cons V' (fun sz V => (took_rule sz _ _ V _ _ _ _ (h sz V)).2 sz l2 V) (by simp [hl]) (ih h2)
theorem Pr.grow {l : List Wd} {N N' : List ByteArray} {rs : List Rl} (h : Pr l N rs N') : ∃ Z, N' = N ++ Z := by
 induction h with
 | nil N => exact ⟨[], by simp⟩
 | cons V' h hl ht ih => exact grow2 (sim_rule 0 _ _ _ _ _ _ _ _ (h 0 [])).1 ih
theorem Pr.mv {l : List Wd} {N N' : List ByteArray} {rs : List Rl} (h : Pr l N rs N') (d : Nat) : ∀ {M M' : List ByteArray}, Go2 N N' M M' → Pr (l.map (mv d)) M rs M' := by
 induction h with
 | nil N =>
  intro M M' hg
  have := hg.same
  subst this
  exact Pr.nil _
 | cons V' h hl ht ih =>
  intro M M' hg
  obtain ⟨M1, g1, g2⟩ := hg.mid ht.grow
  exact Pr.cons V' (fun sz V => (sim_rule d sz _ _ V _ _ _ _ (h sz V)).2 sz M M1 g1) (by simpa using hl) (ih g2)
/-- What is wrong has a name. -/
def Nz {α : Type} (f : Nat → PS → Except PE (α × PS)) : Prop := ∀ sz s z, f sz s = .error z → z.1 ≠ 0
theorem nz_word (k : Nat) : Nz (fun sz s => wordE sz k s) := by
 intro sz s z h
 dsimp only at h
 unfold wordE at h
 split at h
 ·
  cases h
 ·
  cases h
  simp
theorem nz_name : Nz nameE := by
 intro sz s z h
 unfold nameE at h
 split at h
 ·
  split at h
  ·
   cases h
  ·
   split at h
   ·
    cases h
    simp
   ·
    cases h
 ·
  cases h
  simp
theorem nz_term : Nz termE := by
 intro sz s z h
 unfold termE at h
 split at h
 ·
  split at h
  ·
   cases h
  ·
   split at h
   ·
    cases h
    simp
   ·
    cases h
 ·
  rcases bindE_bad h with h1 | ⟨a, s1, h1, h2⟩
  ·
   exact nz_name _ _ _ h1
  ·
   cases h2
theorem nz_args {sz : Nat} : ∀ (n : Nat) (acc : List Tm) {s : PS} {z : PE}, acc.length + n = 7 → acc.length ≤ 6 → argsE sz n acc s = .error z → z.1 ≠ 0
 | 0, acc, s, z, h1, h2, h => by omega
 | n + 1, acc, s, z, h1, h2, h => by
  rw [argsE] at h
  split at h
  ·
   cases h
   simp
  ·
   rename_i h6
   rcases bindE_bad h with h3 | ⟨t, s1, h3, h4⟩
   ·
    exact nz_term _ _ _ h3
   ·
    have hlt : acc.length < 6 := by
     by_cases e : acc.length = 6
     ·
      exact absurd ⟨e, fterm_kind h3⟩ h6
     ·
      omega
    split at h4
    ·
     exact nz_args n _ (by simp; omega) (by simp; omega) h4
    ·
     rcases bindE_bad h4 with h5 | ⟨y, s2, h5, h7⟩
     ·
      exact nz_word 6 _ _ _ h5
     ·
      cases h7
theorem nz_atom : Nz atomE := by
 intro sz s z h
 unfold atomE at h
 rcases bindE_bad h with h1 | ⟨a, s1, h1, h2⟩
 ·
  exact nz_name _ _ _ h1
 ·
  split at h2
  ·
   rcases bindE_bad h2 with h3 | ⟨b, s2, h3, h4⟩
   ·
    exact nz_args 7 [] (by simp) (by simp) h3
   ·
    cases h4
  ·
   cases h2
theorem nz_say : Nz sayE := by
 intro sz s z h
 unfold sayE at h
 split at h
 ·
  rcases bindE_bad h with h1 | ⟨a, s1, h1, h2⟩
  ·
   exact nz_term _ _ _ h1
  ·
   rcases bindE_bad h2 with h3 | ⟨b, s2, h3, h4⟩
   ·
    exact nz_word 4 _ _ _ h3
   ·
    rcases bindE_bad h4 with h5 | ⟨c, s3, h5, h6⟩
    ·
     exact nz_atom _ _ _ h5
    ·
     cases h6
 ·
  rcases bindE_bad h with h1 | ⟨a, s1, h1, h2⟩
  ·
   exact nz_atom _ _ _ h1
  ·
   cases h2
theorem nz_conds {sz : Nat} : ∀ (n : Nat) (acc : List Co) {s : PS} {z : PE}, acc.length + n = 9 → acc.length ≤ 8 → condsE sz n acc s = .error z → z.1 ≠ 0
 | 0, acc, s, z, h1, h2, h => by omega
 | n + 1, acc, s, z, h1, h2, h => by
  rw [condsE] at h
  split at h
  ·
   cases h
   simp
  ·
   rename_i h8
   rcases bindE_bad h with h3 | ⟨y, s1, h3, h4⟩
   ·
    exact nz_say _ _ _ h3
   ·
    have hlt : acc.length < 8 := by
     by_cases e : acc.length = 8
     ·
      exfalso
      refine h8 ⟨e, ?_⟩
      by_cases hk : kindE s.1 = 3
      ·
       exact .inl hk
      ·
       rw [if_neg hk] at h3
       exact .inr (fsay_kind h3)
     ·
      omega
    split at h4
    ·
     exact nz_conds n _ (by simp; omega) (by simp; omega) h4
    ·
     cases h4
theorem nz_rule : Nz ruleE := by
 intro sz s z h
 unfold ruleE at h
 rcases bindE_bad h with h1 | ⟨a, s1, h1, h2⟩
 ·
  exact nz_say _ _ _ h1
 ·
  rcases bindE_bad h2 with h3 | ⟨b, s2, h3, h4⟩
  ·
   unfold bodyE at h3
   split at h3
   ·
    exact nz_conds 9 [] (by simp) (by simp) h3
   ·
    cases h3
  ·
   rcases bindE_bad h4 with h5 | ⟨c, s3, h5, h6⟩
   ·
    exact nz_word 8 _ _ _ h5
   ·
    cases h6
theorem nz_rules {sz : Nat} : ∀ (n : Nat) (acc : List Rl) {s : PS} {z : PE}, rulesE sz n acc s = .error z → z.1 ≠ 0
 | 0, acc, s, z, h => by simp [rulesE] at h
 | n + 1, acc, s, z, h => by
  rw [rulesE] at h
  split at h
  ·
   cases h
  ·
   rcases bindE_bad h with h1 | ⟨a, s1, h1, h2⟩
   ·
    exact nz_rule _ _ _ h1
   ·
    exact nz_rules n _ h2
/-- What a text that is no wrong one is: words, and rules of them. -/
theorem parse_pr {N : List ByteArray} {text : List UInt8} {rs : List Rl} {ns : List ByteArray} {y : Nat} (h : (rs, ns, y, 0) = parseL N text) : text.length ≤ 65536 ∧ (lexG 0 text).2 = none ∧ Pr (lexG 0 text).1 N rs ns := by
 unfold parseL at h
 cases hw : wordsL text with
 | mk ws yz =>
  obtain ⟨y0, z0⟩ := yz
  rw [hw] at h
  dsimp only at h
  by_cases hz : z0 ≠ 0
  ·
   rw [if_pos hz] at h
   simp only [Prod.mk.injEq] at h
   exact absurd h.2.2.2.symm hz
  ·
   rw [if_neg hz] at h
   have hz0 : z0 = 0 := by omega
   subst hz0
   have hfacts : text.length ≤ 65536 ∧ lexG 0 text = (ws, none) := by
    unfold wordsL at hw
    split at hw
    ·
     simp at hw
    ·
     rename_i hlen
     split at hw
     ·
      rename_i he
      simp only [Prod.mk.injEq] at hw
      obtain ⟨rfl, _⟩ := hw
      exact ⟨by omega, he⟩
     ·
      simp at hw
   split at h
   ·
    rename_i rs' s' he
    simp only [Prod.mk.injEq] at h
    obtain ⟨rfl, rfl, _⟩ := h
    obtain ⟨rs2, h1, h2⟩ := pr_of ws.length [] rs (ws, N, []) s' (Nat.le_refl _) he
    rw [List.nil_append] at h1
    subst h1
    rw [hfacts.2]
    exact ⟨hfacts.1, rfl, h2⟩
   ·
    rename_i e a he
    simp only [Prod.mk.injEq] at h
    obtain ⟨_, _, _, h0⟩ := h
    exact absurd h0.symm (nz_rules _ [] he)
theorem pr_parse {N ns : List ByteArray} {text : List UInt8} {rs : List Rl} (hlen : text.length ≤ 65536) (he : (lexG 0 text).2 = none) (h : Pr (lexG 0 text).1 N rs ns) : parseL N text = (rs, ns, 0, 0) := by
 have hw : wordsL text = ((lexG 0 text).1, 0, 0) := wordsL_ok hlen (by rw [← he])
 obtain ⟨V', h4⟩ := of_pr h text.length (lexG 0 text).1.length [] [] h.len
 unfold parseL
 rw [hw]
 dsimp only
 rw [if_neg (by simp), h4]
 rfl
/-- Two policies, one behind the other. -/
theorem parse_two {N N1 N2 : List ByteArray} {a b : List UInt8} {rs1 rs2 : List Rl} {y1 y2 : Nat} (h1 : (rs1, N1, y1, 0) = parseL N a) (h2 : (rs2, N2, y2, 0) = parseL N1 b) (hlen : a.length + b.length + 1 ≤ 65536) : parseL N (a ++ 10 :: b) = (rs1 ++ rs2, N2, 0, 0) := by
 obtain ⟨a1, a2, a3⟩ := parse_pr h1
 obtain ⟨b1, b2, b3⟩ := parse_pr h2
 have hnl := lexG_nl b 0 a
 have hsh := lexG_shift (a.length + 1) 0 b
 rw [show 0 + (a.length + 1) = 0 + a.length + 1 by omega] at hsh
 have hq : lexG 0 (a ++ 10 :: b) = ((lexG 0 a).1 ++ (lexG 0 b).1.map (mv (a.length + 1)), none) := by
  rw [hnl]
  cases ha : lexG 0 a with
  | mk wa oa =>
   rw [ha] at a2
   dsimp only at a2
   subst a2
   dsimp only
   rw [hsh, b2]
   rfl
 refine pr_parse (by simp; omega) (by rw [hq]) ?_
 rw [hq]
 exact a3.app (b3.mv _ (.inl ⟨rfl, rfl⟩))
/-- A table that has all names ahead is not turned. -/
theorem parse_again {N N1 M : List ByteArray} {a : List UInt8} {rs1 : List Rl} {y1 : Nat} (h1 : (rs1, N1, y1, 0) = parseL N a) (hM : Good 4096 M) (hp : ∃ Y, M = N1 ++ Y) : parseL M a = (rs1, M, 0, 0) := by
 obtain ⟨a1, a2, a3⟩ := parse_pr h1
 obtain ⟨Y, hY⟩ := hp
 refine pr_parse a1 a2 ?_
 have := a3.mv 0 (M := M) (M' := M) (.inr ⟨Y, hY, hM, rfl⟩)
 have hid : (lexG 0 a).1.map (mv 0) = (lexG 0 a).1 := by
  conv => rhs; rw [← List.map_id (lexG 0 a).1]
  rfl
 rw [hid] at this
 exact this
end Go.Proofs.YtoigpbajefkpoaaGreatDoor

