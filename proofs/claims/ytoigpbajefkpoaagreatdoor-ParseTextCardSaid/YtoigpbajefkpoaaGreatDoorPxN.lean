/- Texts, packed: PaL Arg SyO PaP PbA -/
import Derived.Test.YtoigpbajefkpoaaGreatDoorPxC
import Derived.Test.YtoigpbajefkpoaaGreatDoorPxA
import Derived.Test.YtoigpbajefkpoaaGreatDoorRows
import Derived.Test.YtoigpbajefkpoaaGreatDoorPxB
import Derived.SliceStrings
import Derived.Test.YtoigpbajefkpoaaGreatDoorPxM
import Derived.ChangeMaps
import Derived.WalkSmall
set_option linter.unusedVariables false
set_option linter.unusedSimpArgs false
namespace Go.Proofs.YtoigpbajefkpoaaGreatDoor
open Go Go.RowKit

theorem fword_let {tx : List UInt8} {n : Nat} (h : wordN tx = (1, n)) : letN tx = n ∧ 1 ≤ n ∧ n ≤ 32 ∧ kindL (tx.take n) = 1 := by
 unfold wordN at h
 split at h
 ·
  rename_i h0
  unfold markN at h
  split at h
  ·
   simp at h
  ·
   split at h
   ·
    simp at h
   ·
    split at h
    ·
     simp at h
    ·
     split at h
     ·
      simp at h
     ·
      split at h
      ·
       simp at h
      ·
       split at h <;> simp at h
 ·
  split at h
  ·
   simp at h
  ·
   rename_i h1
   simp only [Prod.mk.injEq] at h
   obtain ⟨h2, h3⟩ := h
   subst h3
   refine ⟨rfl, by omega, by omega, h2⟩
theorem ftake_all {p : UInt8 → Bool} : ∀ (l : List UInt8), (l.takeWhile p).length = l.length → l.all p = true
 | [], _ => rfl
 | c :: l, h => by
  cases hc : p c with
  | false => simp [List.takeWhile_cons, hc] at h
  | true =>
   simp [List.takeWhile_cons, hc] at h
   have := ftake_all l h
   simp only [List.all_cons, hc, this, Bool.and_self]
/-- A name as a word. -/
def Nm (s : ByteArray) : Prop := plainB s = true ∧ mayB s = true
theorem alone_name {w : Wd} (h1 : wordN w.2.1 = (w.1, w.2.1.length)) (h2 : w.2.1 ≠ []) (h3 : ∀ x, blN false (w.2.1 ++ x) = 0) (hk : w.1 = 1) : Nm ⟨w.2.1.toArray⟩ := by
 obtain ⟨k, tx, a⟩ := w
 dsimp only at h1 h2 h3 hk
 subst hk
 obtain ⟨e1, e2, e3, e4⟩ := fword_let h1
 have htb : tb (⟨tx.toArray⟩ : ByteArray) = tx := rfl
 have hsz : (⟨tx.toArray⟩ : ByteArray).size = tx.length := rfl
 constructor
 ·
  have hz : blN false tx = 0 := by have := h3 []; simpa using this
  have : wordsL tx = ([(1, tx, 0)], 0, 0) := by
   refine wordsL_ok (by omega) ?_
   rw [lexG_word (l1 := tx) (k := 1) (n := tx.length) (by rw [hz]; rfl) h1 (by omega), hz, List.take_length, List.drop_length]
   rw [lexG_end (by decide)]
  unfold plainB
  rw [htb, this]
  simp
 ·
  unfold mayB
  rw [hsz]
  have := ftake_all (p := okB) tx e1
  rw [show (⟨tx.toArray⟩ : ByteArray).data.toList = tx from rfl, this]
  simp
  omega
/-- Words of which each Name is one. -/
def Ws (l : List Wd) : Prop := ∀ w ∈ l, w.1 = 1 → Nm ⟨w.2.1.toArray⟩
theorem Ws.tail {l : List Wd} (h : Ws l) : Ws l.tail := fun w hw => h w (List.mem_of_mem_tail hw)
theorem ws_alone {l : List Wd} (h : Alone l) : Ws l := fun w hw hk => alone_name (h w hw).1 (h w hw).2.1 (h w hw).2.2 hk
/-- A state that can be. -/
structure Gs (s : PS) : Prop where
 ws : Ws s.1
 good : Good 4096 s.2.1
 nodup : s.2.2.Nodup
 few : s.2.2.length ≤ 16
/-- A number that is a name's. -/
def Nin (N : List ByteArray) (i : Nat) : Prop := ∃ x, N[i]? = some x ∧ plainB x = true
def Tin (N : List ByteArray) (v : Nat) (t : Tm) : Prop := if t.1 then t.2.toNat < v else Nin N t.2.toNat
theorem Nin.app {N X : List ByteArray} {i : Nat} (h : Nin N i) : Nin (N ++ X) i := by
 obtain ⟨x, h1, h2⟩ := h
 exact ⟨x, by rw [List.getElem?_append_left (List.getElem?_eq_some_iff.1 h1).1]; exact h1, h2⟩
theorem Tin.app {N X : List ByteArray} {v v' : Nat} {t : Tm} (h : Tin N v t) (hv : v ≤ v') : Tin (N ++ X) v' t := by
 unfold Tin at h ⊢
 split
 ·
  rename_i ht
  rw [if_pos ht] at h
  omega
 ·
  rename_i ht
  rw [if_neg ht] at h
  exact h.app
theorem comeG_app : ∀ (a b : List Tm) (k : Nat), comeG k (a ++ b) = (comeG k a).bind fun j => comeG j b
 | [], b, k => rfl
 | t :: a, b, k => by
  rw [List.cons_append, comeG, comeG]
  split
  ·
   split
   ·
    rfl
   ·
    split <;> exact comeG_app a b _
  ·
   exact comeG_app a b k
/-- From one state on to another, by these terms. -/
structure Gd (s s' : PS) (ts : List Tm) : Prop where
 gs : Gs s'
 names : ∃ X, s'.2.1 = s.2.1 ++ X
 vars : s.2.2.length ≤ s'.2.2.length
 come : comeG s.2.2.length ts = some s'.2.2.length
 known : ∀ t ∈ ts, Tin s'.2.1 s'.2.2.length t
theorem Gd.refl {s : PS} (h : Gs s) : Gd s s [] := ⟨h, ⟨[], by simp⟩, Nat.le_refl _, rfl, by simp⟩
theorem Gd.trans {s s1 s2 : PS} {a b : List Tm} (h : Gd s s1 a) (k : Gd s1 s2 b) : Gd s s2 (a ++ b) := by
 obtain ⟨X, hX⟩ := h.names
 obtain ⟨Y, hY⟩ := k.names
 refine ⟨k.gs, ⟨X ++ Y, by rw [hY, hX, List.append_assoc]⟩, Nat.le_trans h.vars k.vars, ?_, ?_⟩
 ·
  rw [comeG_app, h.come]
  exact k.come
 ·
  intro t ht
  rcases List.mem_append.1 ht with h1 | h1
  ·
   rw [hY]
   exact (h.known t h1).app k.vars
  ·
   exact k.known t h1
theorem Gd.nin {s s1 : PS} {a : List Tm} {i : Nat} (k : Gd s s1 a) (h : Nin s.2.1 i) : Nin s1.2.1 i := by
 obtain ⟨Y, hY⟩ := k.names
 rw [hY]
 exact h.app
theorem gs_next {s : PS} (h : Gs s) : Gd s (nextE s) [] := ⟨⟨h.ws.tail, h.good, h.nodup, h.few⟩, ⟨[], by simp⟩, Nat.le_refl _, rfl, by simp⟩
theorem gs_word {sz k : Nat} {s s' : PS} {x : ByteArray} (h : Gs s) (hf : wordE sz k s = .ok (x, s')) : Gd s s' [] := by
 unfold wordE at hf
 split at hf
 ·
  simp only [Except.ok.injEq, Prod.mk.injEq] at hf
  rw [← hf.2]
  exact gs_next h
 ·
  cases hf
theorem fkind_txE {l : List Wd} {k : Nat} (h : kindE l = k) (hk : k ≠ 0) : ∃ w t, l = w :: t ∧ w.1 = k := by
 cases l with
 | nil => exact absurd h.symm hk
 | cons w t => exact ⟨w, t, rfl, h⟩
theorem gs_name {sz i : Nat} {s s' : PS} (h : Gs s) (hf : nameE sz s = .ok (i, s')) : Gd s s' [] ∧ Nin s'.2.1 i ∧ i < 4096 := by
 obtain ⟨l, N, V⟩ := s
 unfold nameE at hf
 split at hf
 ·
  rename_i hk
  obtain ⟨w, t, hl, hw⟩ := fkind_txE hk (by omega)
  dsimp only at hl
  subst hl
  have hn := h.ws w (by simp) hw
  have htx : txE (w :: t) = ⟨w.2.1.toArray⟩ := rfl
  dsimp only at hf
  rw [htx] at hf
  split at hf
  ·
   rename_i j hj
   simp only [Except.ok.injEq, Prod.mk.injEq] at hf
   obtain ⟨rfl, rfl⟩ := hf
   refine ⟨gs_next h, ⟨_, findO_get hj, hn.1⟩, ?_⟩
   have h1 := findO_lt hj
   have h2 := h.good.len
   dsimp only at h2
   omega
  ·
   rename_i hj
   split at hf
   ·
    cases hf
   ·
    rename_i hl
    simp only [Except.ok.injEq, Prod.mk.injEq] at hf
    obtain ⟨rfl, rfl⟩ := hf
    have hg := h.good
    dsimp only at hg hl
    have hgood : Good 4096 (N ++ [⟨w.2.1.toArray⟩]) := by
     refine ⟨?_, ?_, ?_⟩
     ·
      rw [List.nodup_append]
      exact ⟨hg.nodup, by simp, fun a ha b hb e => findO_mem.1 hj (by simp at hb; rw [← hb, ← e]; exact ha)⟩
     ·
      intro x hx
      rcases List.mem_append.1 hx with h1 | h1
      ·
       exact hg.may x h1
      ·
       rw [List.mem_singleton] at h1
       rw [h1]
       exact hn.2
     ·
      simp
      omega
    refine ⟨⟨⟨h.ws.tail, hgood, h.nodup, h.few⟩, ⟨_, rfl⟩, Nat.le_refl _, rfl, by simp⟩, ⟨_, by simp, hn.1⟩, by omega⟩
 ·
  cases hf
theorem ftoNat_of {i : Nat} (h : i < 4096) : (UInt32.ofNat i).toNat = i := by
 rw [UInt32.toNat_ofNat']
 exact Nat.mod_eq_of_lt (by omega)
theorem gs_term {sz : Nat} {t : Tm} {s s' : PS} (h : Gs s) (hf : termE sz s = .ok (t, s')) : Gd s s' [t] ∧ (t.1 = true → t.2.toNat < 16) := by
 unfold termE at hf
 split at hf
 ·
  rename_i hk
  obtain ⟨l, N, V⟩ := s
  have hfew := h.few
  dsimp only at hf hfew
  split at hf
  ·
   rename_i j hj
   simp only [Except.ok.injEq, Prod.mk.injEq] at hf
   obtain ⟨rfl, rfl⟩ := hf
   have h1 := findO_lt hj
   have h2 := ftoNat_of (i := j) (by omega)
   refine ⟨⟨(gs_next h).gs, ⟨[], by simp⟩, Nat.le_refl _, ?_, ?_⟩, fun _ => by dsimp only; omega⟩
   ·
    show comeG V.length [(true, UInt32.ofNat j)] = some V.length
    rw [comeG, if_pos rfl, if_neg (by dsimp only; omega), if_neg (by dsimp only; omega)]
    rfl
   ·
    intro t ht
    rw [List.mem_singleton] at ht
    subst ht
    show Tin N V.length (true, UInt32.ofNat j)
    unfold Tin
    rw [if_pos rfl]
    dsimp only
    omega
  ·
   rename_i hj
   split at hf
   ·
    cases hf
   ·
    rename_i hl
    simp only [Except.ok.injEq, Prod.mk.injEq] at hf
    obtain ⟨rfl, rfl⟩ := hf
    have h2 := ftoNat_of (i := V.length) (by omega)
    have hlen : (V ++ [txE l]).length = V.length + 1 := by simp
    refine ⟨⟨⟨h.ws.tail, h.good, ?_, ?_⟩, ⟨[], by simp⟩, ?_, ?_, ?_⟩, fun _ => by dsimp only; omega⟩
    ·
     show (V ++ [txE l]).Nodup
     rw [List.nodup_append]
     exact ⟨h.nodup, by simp, fun a ha b hb e => findO_mem.1 hj (by simp at hb; rw [← hb, ← e]; exact ha)⟩
    ·
     show (V ++ [txE l]).length ≤ 16
     omega
    ·
     show V.length ≤ (V ++ [txE l]).length
     omega
    ·
     show comeG V.length [(true, UInt32.ofNat V.length)] = some (V ++ [txE l]).length
     rw [comeG, if_pos rfl, if_neg (by dsimp only; omega), if_pos h2, hlen]
     rfl
    ·
     intro t ht
     rw [List.mem_singleton] at ht
     subst ht
     show Tin N (V ++ [txE l]).length (true, UInt32.ofNat V.length)
     unfold Tin
     rw [if_pos rfl]
     dsimp only
     omega
 ·
  obtain ⟨i, s1, h1, h2⟩ := bindE_ok hf
  simp only [Except.ok.injEq, Prod.mk.injEq] at h2
  obtain ⟨rfl, rfl⟩ := h2
  obtain ⟨a1, a2, a3⟩ := gs_name h h1
  refine ⟨⟨a1.gs, a1.names, a1.vars, ?_, ?_⟩, fun h => by cases h⟩
  ·
   have := a1.come
   rw [comeG] at this
   rw [comeG, if_neg (by simp), comeG]
   exact this
  ·
   intro t ht
   rw [List.mem_singleton] at ht
   subst ht
   unfold Tin
   rw [if_neg (by simp)]
   dsimp only
   rw [ftoNat_of a3]
   exact a2
theorem fterm_kind {sz : Nat} {t : Tm} {s s' : PS} (hf : termE sz s = .ok (t, s')) : kindE s.1 = 1 ∨ kindE s.1 = 2 := by
 unfold termE at hf
 split at hf
 ·
  rename_i hk
  exact .inr hk
 ·
  obtain ⟨i, s1, h1, h2⟩ := bindE_ok hf
  unfold nameE at h1
  split at h1
  ·
   rename_i hk
   exact .inl hk
  ·
   cases h1
theorem gs_args {sz : Nat} : ∀ (n : Nat) (acc : List Tm) {l : List Tm} {s s' : PS}, Gs s → acc.length ≤ 6 → argsE sz n acc s = .ok (l, s') →
  ∃ m, l = acc ++ m ∧ Gd s s' m ∧ l.length ≤ 6 ∧ ∀ t ∈ m, t.1 = true → t.2.toNat < 16
 | 0, acc, l, s, s', h, ha, hf => by simp [argsE] at hf
 | n + 1, acc, l, s, s', h, ha, hf => by
  rw [argsE] at hf
  split at hf
  ·
   cases hf
  ·
   rename_i h6
   obtain ⟨t, s1, h1, h2⟩ := bindE_ok hf
   obtain ⟨a1, a2⟩ := gs_term h h1
   have hk := fterm_kind h1
   have hlt : acc.length < 6 := by
    by_cases e : acc.length = 6
    ·
     exact absurd ⟨e, hk⟩ h6
    ·
     omega
   split at h2
   ·
    obtain ⟨m, rfl, b1, b2, b3⟩ := gs_args n (acc ++ [t]) (gs_next a1.gs).gs (by simp; omega) h2
    refine ⟨t :: m, by simp, ?_, b2, ?_⟩
    ·
     have := (a1.trans (gs_next a1.gs)).trans b1
     simpa using this
    ·
     intro u hu
     rcases List.mem_cons.1 hu with rfl | hu
     ·
      exact a2
     ·
      exact b3 u hu
   ·
    obtain ⟨y, s2, h3, h4⟩ := bindE_ok h2
    simp only [Except.ok.injEq, Prod.mk.injEq] at h4
    obtain ⟨rfl, rfl⟩ := h4
    refine ⟨[t], rfl, by simpa using a1.trans (gs_word a1.gs h3), by simp; omega, ?_⟩
    intro u hu
    rw [List.mem_singleton] at hu
    subst hu
    exact a2
theorem mayA_of {i : UInt32} {l : List Tm} (h : l.length ≤ 6) (h2 : ∀ t ∈ l, t.1 = true → t.2.toNat < 16) : mayA (i, l) = true := by
 unfold mayA
 rw [Bool.and_eq_true]
 refine ⟨?_, decide_eq_true h⟩
 rw [List.all_eq_true]
 intro t ht
 cases hb : t.1 with
 | false => rfl
 | true => simp [h2 t ht hb]
theorem gs_atom {sz : Nat} {a : AtL} {s s' : PS} (h : Gs s) (hf : atomE sz s = .ok (a, s')) : Gd s s' a.2 ∧ Nin s'.2.1 a.1.toNat ∧ mayA a = true := by
 unfold atomE at hf
 obtain ⟨p, s1, h1, h2⟩ := bindE_ok hf
 obtain ⟨a1, a2, a3⟩ := gs_name h h1
 split at h2
 ·
  obtain ⟨l, s2, h3, h4⟩ := bindE_ok h2
  simp only [Except.ok.injEq, Prod.mk.injEq] at h4
  obtain ⟨rfl, rfl⟩ := h4
  obtain ⟨m, rfl, b1, b2, b3⟩ := gs_args 7 [] (gs_next a1.gs).gs (by simp) h3
  have hg := (a1.trans (gs_next a1.gs)).trans b1
  refine ⟨by simpa using hg, ?_, mayA_of b2 (by simpa using b3)⟩
  rw [ftoNat_of a3]
  exact ((gs_next a1.gs).trans b1).nin a2
 ·
  simp only [Except.ok.injEq, Prod.mk.injEq] at h2
  obtain ⟨rfl, rfl⟩ := h2
  refine ⟨a1, ?_, mayA_of (by simp) (by simp)⟩
  rw [ftoNat_of a3]
  exact a2
theorem gs_say {sz : Nat} {y : Sy} {s s' : PS} (h : Gs s) (hf : sayE sz s = .ok (y, s')) : Gd s s' (termsS y) ∧ Nin s'.2.1 y.2.2.1.toNat ∧ mayS y = true := by
 unfold sayE at hf
 split at hf
 ·
  obtain ⟨t, s1, h1, h2⟩ := bindE_ok hf
  obtain ⟨x, s2, h3, h4⟩ := bindE_ok h2
  obtain ⟨a, s3, h5, h6⟩ := bindE_ok h4
  simp only [Except.ok.injEq, Prod.mk.injEq] at h6
  obtain ⟨rfl, rfl⟩ := h6
  obtain ⟨a1, a2⟩ := gs_term h h1
  have b1 := gs_word a1.gs h3
  obtain ⟨c1, c2, c3⟩ := gs_atom b1.gs h5
  refine ⟨by simpa [termsS] using (a1.trans b1).trans c1, c2, ?_⟩
  unfold mayS
  rw [c3]
  cases hb : t.1 with
  | false => simp [hb]
  | true => simp [hb, a2 hb]
 ·
  obtain ⟨a, s1, h1, h2⟩ := bindE_ok hf
  simp only [Except.ok.injEq, Prod.mk.injEq] at h2
  obtain ⟨rfl, rfl⟩ := h2
  obtain ⟨c1, c2, c3⟩ := gs_atom h h1
  refine ⟨by simpa [termsS] using c1, c2, ?_⟩
  unfold mayS
  rw [c3]
  simp
theorem fatom_kind {sz : Nat} {a : AtL} {s s' : PS} (hf : atomE sz s = .ok (a, s')) : kindE s.1 = 1 := by
 unfold atomE at hf
 obtain ⟨p, s1, h1, h2⟩ := bindE_ok hf
 unfold nameE at h1
 split at h1
 ·
  rename_i hk
  exact hk
 ·
  cases h1
theorem fsay_kind {sz : Nat} {y : Sy} {s s' : PS} (hf : sayE sz s = .ok (y, s')) : kindE s.1 = 1 ∨ kindE s.1 = 2 := by
 unfold sayE at hf
 split at hf
 ·
  obtain ⟨t, s1, h1, h2⟩ := bindE_ok hf
  exact fterm_kind h1
 ·
  obtain ⟨a, s1, h1, h2⟩ := bindE_ok hf
  exact .inl (fatom_kind h1)
/-- A say that is known. -/
def Kn (N : List ByteArray) (y : Sy) : Prop := Nin N y.2.2.1.toNat ∧ mayS y = true
theorem gs_conds {sz : Nat} : ∀ (n : Nat) (acc : List Co) {l : List Co} {s s' : PS}, Gs s → acc.length ≤ 8 → condsE sz n acc s = .ok (l, s') →
  ∃ m, l = acc ++ m ∧ Gd s s' (m.flatMap fun c => termsS c.2) ∧ l.length ≤ 8 ∧ ∀ c ∈ m, Kn s'.2.1 c.2
 | 0, acc, l, s, s', h, ha, hf => by simp [condsE] at hf
 | n + 1, acc, l, s, s', h, ha, hf => by
  rw [condsE] at hf
  split at hf
  ·
   cases hf
  ·
   rename_i h6
   obtain ⟨y, s1, h1, h2⟩ := bindE_ok hf
   have hlt : acc.length < 8 := by
    by_cases e : acc.length = 8
    ·
     exfalso
     refine h6 ⟨e, ?_⟩
     by_cases h3 : kindE s.1 = 3
     ·
      exact .inl h3
     ·
      rw [if_neg h3] at h1
      exact .inr (fsay_kind h1)
    ·
     omega
   have hs : Gd s (if kindE s.1 = 3 then nextE s else s) [] := by
    split
    ·
     exact gs_next h
    ·
     exact Gd.refl h
   obtain ⟨a1, a2, a3⟩ := gs_say hs.gs h1
   have a0 : Gd s s1 (termsS y) := by simpa using hs.trans a1
   split at h2
   ·
    obtain ⟨m, rfl, b1, b2, b3⟩ := gs_conds n _ (gs_next a1.gs).gs (by simp; omega) h2
    have b4 := (gs_next a1.gs).trans b1
    refine ⟨(decide (kindE s.1 = 3), y) :: m, by simp, ?_, b2, ?_⟩
    ·
     have := a0.trans b4
     simpa using this
    ·
     intro c hc
     rcases List.mem_cons.1 hc with rfl | hc
     ·
      exact ⟨b4.nin a2, a3⟩
     ·
      exact b3 c hc
   ·
    simp only [Except.ok.injEq, Prod.mk.injEq] at h2
    obtain ⟨rfl, rfl⟩ := h2
    refine ⟨[_], rfl, by simpa using a0, by simp; omega, ?_⟩
    intro c hc
    rw [List.mem_singleton] at hc
    subst hc
    exact ⟨a2, a3⟩
theorem gs_body {sz : Nat} {l : List Co} {s s' : PS} (h : Gs s) (hf : bodyE sz s = .ok (l, s')) : Gd s s' (l.flatMap fun c => termsS c.2) ∧ l.length ≤ 8 ∧ ∀ c ∈ l, Kn s'.2.1 c.2 := by
 unfold bodyE at hf
 split at hf
 ·
  obtain ⟨m, rfl, b1, b2, b3⟩ := gs_conds 9 [] (gs_next h).gs (by simp) hf
  refine ⟨by simpa using (gs_next h).trans b1, b2, by simpa using b3⟩
 ·
  simp only [Except.ok.injEq, Prod.mk.injEq] at hf
  obtain ⟨rfl, rfl⟩ := hf
  exact ⟨Gd.refl h, by simp, by simp⟩
theorem known_name {N : List ByteArray} {i : Nat} (hN : Good 4096 N) (h : Nin N i) : namedL N i ≠ [] := by
 obtain ⟨x, h1, h2⟩ := h
 unfold namedL
 rw [h1]
 dsimp only
 rw [if_pos h2]
 have := hN.may x (List.mem_of_getElem? h1)
 unfold mayB at this
 intro e
 have hl := tb_len x
 rw [e] at hl
 rw [← hl] at this
 simp at this
theorem known_term {N : List ByteArray} {v : Nat} {t : Tm} (hN : Good 4096 N) (h : Tin N v t) : termL N t ≠ [] := by
 unfold Tin at h
 unfold termL
 split
 ·
  simp
 ·
  rename_i ht
  rw [if_neg ht] at h
  exact known_name hN h
theorem known_say {N : List ByteArray} {v : Nat} {y : Sy} (hN : Good 4096 N) (h : Nin N y.2.2.1.toNat) (ht : ∀ t ∈ termsS y, Tin N v t) : knownB N y = true := by
 unfold knownB
 rw [Bool.and_eq_true, Bool.and_eq_true]
 refine ⟨⟨decide_eq_true (known_name hN h), ?_⟩, ?_⟩
 ·
  cases hb : y.1 with
  | false => rfl
  | true =>
   have := known_term hN (ht y.2.1 (by simp [termsS, hb]))
   simp [this]
 ·
  rw [List.all_eq_true]
  intro t h1
  exact decide_eq_true (known_term hN (ht t (by simp [termsS, h1])))
theorem gs_rule {sz : Nat} {r : Rl} {s s' : PS} (h : Gs s) (hf : ruleE sz s = .ok (r, s')) :
  Gs s' ∧ (∃ X, s'.2.1 = s.2.1 ++ X) ∧ mayR r = true ∧ comeR r = true ∧ knownR s'.2.1 r = true ∧ ∃ v, (∀ t ∈ termsR r, Tin s'.2.1 v t) ∧ Nin s'.2.1 r.1.2.2.1.toNat ∧ ∀ c ∈ r.2, Nin s'.2.1 c.2.2.2.1.toNat := by
 unfold ruleE at hf
 obtain ⟨y, s1, h1, h2⟩ := bindE_ok hf
 obtain ⟨b, s2, h3, h4⟩ := bindE_ok h2
 obtain ⟨x, s3, h5, h6⟩ := bindE_ok h4
 simp only [Except.ok.injEq, Prod.mk.injEq] at h6
 obtain ⟨rfl, rfl⟩ := h6
 obtain ⟨a1, a2, a3⟩ := gs_say (s := (s.1, s.2.1, [])) ⟨h.ws, h.good, List.nodup_nil, by simp⟩ h1
 obtain ⟨b1, b2, b3⟩ := gs_body a1.gs h3
 have c1 := gs_word b1.gs h5
 have hall : Gd (s.1, s.2.1, []) s3 (termsR (y, b)) := by simpa [termsR] using (a1.trans b1).trans c1
 have hN := hall.gs.good
 have hn1 : Nin s3.2.1 y.2.2.1.toNat := (b1.trans c1).nin a2
 have hn2 : ∀ c ∈ b, Nin s3.2.1 c.2.2.2.1.toNat := fun c hc => c1.nin (b3 c hc).1
 refine ⟨hall.gs, hall.names, ?_, ?_, ?_, _, hall.known, hn1, hn2⟩
 ·
  unfold mayR
  rw [Bool.and_eq_true, Bool.and_eq_true]
  refine ⟨⟨?_, a3⟩, decide_eq_true b2⟩
  rw [List.all_eq_true]
  exact fun c hc => (b3 c hc).2
 ·
  unfold comeR
  have := hall.come
  rw [show ([] : List ByteArray).length = 0 from rfl] at this
  rw [this]
  rfl
 ·
  unfold knownR
  rw [Bool.and_eq_true]
  refine ⟨known_say hN hn1 fun t ht => hall.known t (by simp [termsR, ht]), ?_⟩
  rw [List.all_eq_true]
  intro c hc
  exact known_say hN (hn2 c hc) fun t ht => hall.known t (by
   simp only [termsR, List.mem_append, List.mem_flatMap]
   exact .inr ⟨c, hc, ht⟩)
/-- What a parsed rule is, by the names behind it. -/
def Fine (N : List ByteArray) (r : Rl) : Prop := mayR r = true ∧ comeR r = true ∧ ∃ v, (∀ t ∈ termsR r, Tin N v t) ∧ Nin N r.1.2.2.1.toNat ∧ ∀ c ∈ r.2, Nin N c.2.2.2.1.toNat
theorem Fine.app {N X : List ByteArray} {r : Rl} (h : Fine N r) : Fine (N ++ X) r := by
 obtain ⟨h1, h2, v, h3, h4, h5⟩ := h
 exact ⟨h1, h2, v, fun t ht => (h3 t ht).app (Nat.le_refl _), h4.app, fun c hc => (h5 c hc).app⟩
theorem Fine.known {N : List ByteArray} {r : Rl} (h : Fine N r) (hN : Good 4096 N) : knownR N r = true := by
 obtain ⟨_, _, v, h3, h4, h5⟩ := h
 unfold knownR
 rw [Bool.and_eq_true]
 refine ⟨known_say hN h4 fun t ht => h3 t (by simp [termsR, ht]), ?_⟩
 rw [List.all_eq_true]
 intro c hc
 exact known_say hN (h5 c hc) fun t ht => h3 t (by
  simp only [termsR, List.mem_append, List.mem_flatMap]
  exact .inr ⟨c, hc, ht⟩)
theorem gs_rules {sz : Nat} : ∀ (n : Nat) (acc : List Rl) {l : List Rl} {s s' : PS}, Gs s → rulesE sz n acc s = .ok (l, s') →
  Gs s' ∧ (∃ X, s'.2.1 = s.2.1 ++ X) ∧ ∃ m, l = acc ++ m ∧ m.length ≤ n ∧ ∀ r ∈ m, Fine s'.2.1 r
 | 0, acc, l, s, s', h, hf => by
  rw [rulesE] at hf
  simp only [Except.ok.injEq, Prod.mk.injEq] at hf
  obtain ⟨rfl, rfl⟩ := hf
  exact ⟨h, ⟨[], by simp⟩, [], by simp, by simp, by simp⟩
 | n + 1, acc, l, s, s', h, hf => by
  rw [rulesE] at hf
  split at hf
  ·
   simp only [Except.ok.injEq, Prod.mk.injEq] at hf
   obtain ⟨rfl, rfl⟩ := hf
   exact ⟨h, ⟨[], by simp⟩, [], by simp, by simp, by simp⟩
  ·
   obtain ⟨r, s1, h1, h2⟩ := bindE_ok hf
   obtain ⟨a1, ⟨X, a2⟩, a3, a4, a5, a6⟩ := gs_rule h h1
   obtain ⟨b1, ⟨Y, b2⟩, m, rfl, b3, b4⟩ := gs_rules n _ a1 h2
   refine ⟨b1, ⟨X ++ Y, by rw [b2, a2, List.append_assoc]⟩, r :: m, by simp, by simp; omega, ?_⟩
   intro x hx
   rcases List.mem_cons.1 hx with rfl | hx
   ·
    rw [b2]
    exact Fine.app ⟨a3, a4, a6⟩
   ·
    exact b4 x hx
/-- All that is known of what is parsed. -/
theorem parseL_fine {N : List ByteArray} {text : List UInt8} (hN : Good 4096 N) {rs : List Rl} {ns : List ByteArray} {y z : Nat} (h : (rs, ns, y, z) = parseL N text) :
  Good 4096 ns ∧ (∃ X, ns = N ++ X) ∧ (∀ r ∈ rs, Fine ns r) ∧ (z ≠ 0 → rs = [] ∧ ns = N) := by
 unfold parseL at h
 cases hw : wordsL text with
 | mk ws yz =>
  obtain ⟨y0, z0⟩ := yz
  rw [hw] at h
  dsimp only at h
  by_cases hz : z0 ≠ 0
  ·
   rw [if_pos hz] at h
   simp only [Prod.mk.injEq] at h
   obtain ⟨rfl, rfl, rfl, rfl⟩ := h
   exact ⟨hN, ⟨[], by simp⟩, by simp, fun _ => ⟨rfl, rfl⟩⟩
  ·
   rw [if_neg hz] at h
   have hws : Ws ws := by
    unfold wordsL at hw
    split at hw
    ·
     simp only [Prod.mk.injEq] at hw
     obtain ⟨rfl, rfl, rfl⟩ := hw
     intro w hw; cases hw
    ·
     have ha := lexG_alone 0 text
     split at hw
     ·
      rename_i he
      simp only [Prod.mk.injEq] at hw
      obtain ⟨rfl, rfl, rfl⟩ := hw
      rw [he] at ha
      exact ws_alone ha
     ·
      simp only [Prod.mk.injEq] at hw
      obtain ⟨rfl, rfl, rfl⟩ := hw
      intro w hw; cases hw
   have hgs : Gs (ws, N, []) := ⟨hws, hN, List.nodup_nil, by simp⟩
   split at h
   ·
    rename_i rs' s' he
    simp only [Prod.mk.injEq] at h
    obtain ⟨rfl, rfl, rfl, rfl⟩ := h
    obtain ⟨a1, a2, m, hm, a3, a4⟩ := gs_rules _ [] hgs he
    rw [List.nil_append] at hm
    subst hm
    exact ⟨a1.good, a2, a4, fun h => absurd rfl h⟩
   ·
    simp only [Prod.mk.injEq] at h
    obtain ⟨rfl, rfl, rfl, rfl⟩ := h
    exact ⟨hN, ⟨[], by simp⟩, by simp, fun _ => ⟨rfl, rfl⟩⟩
end Go.Proofs.YtoigpbajefkpoaaGreatDoor

set_option linter.unusedVariables false
set_option maxRecDepth 100000
namespace Go.Proofs.YtoigpbajefkpoaaGreatDoor
open Go Go.RowKit

theorem laidOut : laidOutB Tryz.prog = true := by kernel_rfl
theorem ownK : ownKnob Tryz.prog.godebug = none := by kernel_rfl
end Go.Proofs.YtoigpbajefkpoaaGreatDoor

set_option linter.unusedVariables false
set_option maxRecDepth 100000
namespace Go.Proofs.YtoigpbajefkpoaaGreatDoor
open Go Go.RowKit

theorem cellsStr : Tryz.prog.cellsOf 9 = 1 := by kernel_rfl
open Go.ChangeShapes Go.WideShapes in
/-- A []string among the arguments. -/
theorem open_names {H : Type} {enc : TypeId × Value → H} {W : World} {v : Value} {d : DataW H} {p : List MemPlace} (hv : Value.okWide Tryz.prog W .any 0 22 v) (h : DataW.Trod enc Tryz.prog W 0 (fun _ => true) true 22 v d p)
  (hlt : ∀ x ∈ p, x.block < W.heap.size) :
  ∃ (A : Option Addr) (n c : Nat) (l : List ByteArray), v = .slice A n c ∧ n ≤ c ∧ n ≤ maxLen ∧ Rd W W.heap.size 1 A n (l.map sv) ∧ ∀ s ∈ l, s.size ≤ maxLen := by
 obtain ⟨a0, len, cap, rfl⟩ := okWide_slice Tryz.underlying22 hv
 obtain ⟨fuel, hf⟩ := h
 rcases open_strings Tryz.underlying22 Tryz.underlying9 cellsStr hf with ⟨hcs, hx⟩ | ⟨a, len', cap', ss, hcs, _, hl, hm, hz, hx, hcell, hwz⟩
 ·
  simp [Value.cells] at hcs
  obtain ⟨rfl, rfl, rfl⟩ := hcs
  exact ⟨none, 0, 0, [], rfl, Nat.le_refl _, Nat.zero_le _, Rd.nil, by simp⟩
 ·
  simp [Value.cells] at hcs
  obtain ⟨rfl, rfl, rfl⟩ := hcs
  simp only [Prod.mk.injEq] at hx
  obtain ⟨rfl, rfl⟩ := hx
  simp only [if_true] at hz
  refine ⟨some a, len, cap, ss.take len, rfl, hl, by omega, ⟨by simp; omega, fun hn => ?_⟩, fun s hs => hwz s (List.mem_of_mem_take hs)⟩
  obtain ⟨b, off, spot⟩ := a
  have hspot : spot = none := by simpa [Addr.add] using World.cell?_spot (hcell 0 (by omega))
  subst hspot
  refine ⟨b, off, rfl, hlt (.cell b off) (MemPlace.mem_row.2 ⟨0, by omega, by simp⟩), fun j u hu => ?_⟩
  have hj : j < len := by
   have := (List.getElem?_eq_some_iff.1 hu).1
   simp at this
   omega
  have hjz : j < ss.length := by omega
  have hc := hcell j hjz
  rw [addPlain] at hc
  rw [hc]
  simp only [List.getElem?_map, List.getElem?_take, hj, if_true, List.getElem?_eq_getElem hjz, Option.map_some, Option.some.injEq] at hu
  rw [← hu]
  simp [sv, List.getD, List.getElem?_eq_getElem hjz]
end Go.Proofs.YtoigpbajefkpoaaGreatDoor

set_option linter.unusedVariables false
set_option linter.unusedSimpArgs false
namespace Go.Proofs.YtoigpbajefkpoaaGreatDoor
open Go Go.RowKit

theorem fine_small {N : List ByteArray} {rs : List Rl} (h : ∀ r ∈ rs, Fine N r) : smallR rs := by
 intro r hr
 have hm := (h r hr).1
 unfold mayR at hm
 rw [Bool.and_eq_true, Bool.and_eq_true] at hm
 obtain ⟨⟨h1, h2⟩, h3⟩ := hm
 have h4 := of_decide_eq_true h3
 have key : ∀ y : Sy, mayS y = true → y.2.2.2.length ≤ 1000 := by
  intro y hy
  unfold mayS mayA at hy
  simp only [Bool.and_eq_true, decide_eq_true_eq] at hy
  omega
 refine ⟨key _ h2, by omega, fun x hx => ?_⟩
 rw [List.all_eq_true] at h1
 exact key _ (h1 x hx)
end Go.Proofs.YtoigpbajefkpoaaGreatDoor
namespace Go.Proofs.YtoigpbajefkpoaaGreatDoor.parseText
open Go Go.RowKit

set_option maxRecDepth 100000 in
set_option maxHeartbeats 8000000 in
theorem walk {P : World → Prop} (ok : ParsesOk P) (A : Option Addr) (n c : Nat) (l : List ByteArray) (s : ByteArray) (w : World) (hP : P w) (hr : Rd w w.heap.size 1 A n (l.map sv)) :
  Calls Tryz.prog 3 #[.slice A n c, sv s] w fun e w' => e = .returned (.bool true) ∧ Below w.heap.size w w' := by
 have HPW := Lib.hid hP
 clear hP
 by_cases hbig : 4096 < s.size
 ·
  have hd : decide ((4096 : Int) < (s.size : Int)) = true := by simp; omega
  go_enter Tryz.func3, Tryz.ntmps3
  repeat (first | go_skip | go_guarded | go_step)
  refine (pWorks_any ok w HPW.out).mono ?_
  rintro e w1 ⟨rfl, hb⟩
  dsimp only
  repeat (first | go_skip | go_guarded | go_step)
  go_ret
  exact ⟨rfl, hb⟩
 ·
  have hd : decide ((4096 : Int) < (s.size : Int)) = false := by simp; omega
  have HR := Lib.hid hr
  have hlen := tb_len s
  go_enter Tryz.func3, Tryz.ntmps3
  repeat (first | go_skip | go_guarded | go_step)
  refine (table_any A n c l w HR.out).mono ?_
  rintro e w1 ⟨hb1, ⟨htb, g, F, rfl, ht1, hg1, hs1, hf1⟩ | ⟨htb, rfl⟩⟩
  ·
   have HB1 := Lib.hid hb1
   have HT1 := Lib.hid ht1
   have HG1 := Lib.hid hg1
   have HF1 := Lib.hid hf1
   have hn : n ≤ 4096 := by
    have := hg1.len
    have h2 : l.length = n := by simpa using hr.len1
    omega
   clear hb1 ht1 hg1 hs1 hf1 htb
   dsimp only
   repeat (first | go_skip | go_guarded | go_step)
   refine (ok.parse g F l s w1 (ok.later _ _ HPW.out HB1.out) HT1.out (HG1.out.mono (by omega)) (by omega)).mono ?_
   rintro e w2 ⟨A2, n2, c2, Q, rs, ns, y, z, F2, rfl, hnc, hn2, hrd, ht2, hT2, hF2, hpa⟩
   have hfine := parseL_fine (HG1.out.mono (m := 4096) (by omega)) hpa
   have HS := Lib.hid (fine_small hfine.2.2.1)
   have HNS := Lib.hid hfine.1
   have HRD := Lib.hid hrd
   have HT2 := Lib.hid ht2
   have HB2 := Lib.hid (HB1.out.trans (hT2.below (fun k _ h => HF1.out k h) HB1.out.size))
   have HPA := Lib.hid hpa
   clear hnc hrd ht2 hT2 hF2 hpa hfine
   dsimp only
   repeat (first | go_skip | go_guarded | go_step)
   refine (rParse8_any A n c l s w2 ((HR.out.below HB2.out).more HB2.out.size) hn (by omega)).mono ?_
   rintro e w3 ⟨A3, n3, c3, A4, n4, c4, Q3, rs3, ns3, y3, z3, rfl, ho3, hn3, hr3, hb3, hpb⟩
   have hq := HPA.out
   rw [← hpb] at hq
   simp only [Prod.mk.injEq] at hq
   obtain ⟨rfl, rfl, rfl, rfl⟩ := hq
   have HB3 := Lib.hid (HB2.out.trans (hb3.mono HB2.out.size))
   have HRA := Lib.hid ((HRD.out w3 (Turn.ofBelow hb3)).more hb3.size)
   have HRB := Lib.hid ho3.rd
   have HR3 := Lib.hid hr3
   have HT3 := Lib.hid (HT2.out.later hb3)
   clear ho3 hr3 hb3 hpb HPA HRD
   dsimp only
   repeat (first | go_skip | go_guarded | go_step)
   refine (rSame8_any A2 n2 c2 Q rs A3 n3 c3 Q3 rs w3 HRA.out HRB.out (by omega) HS.out).mono ?_
   rintro e w4 ⟨rfl, hb4⟩
   rw [decide_eq_true rfl]
   have HB4 := Lib.hid (HB3.out.trans (hb4.mono HB3.out.size))
   have HR4 := Lib.hid ((HR3.out.below hb4).more hb4.size)
   have HT4 := Lib.hid (HT3.out.later hb4)
   clear hb4
   dsimp only
   repeat (first | go_skip | go_guarded | go_step)
   refine (tList g F2 ns w4 HT4.out (by have := HNS.out.len; omega)).mono ?_
   rintro e w5 ⟨A5, c5, rfl, ho5, hb5⟩
   have HB5 := Lib.hid (HB4.out.trans (hb5.mono HB4.out.size))
   have HR5 := Lib.hid ((HR4.out.below hb5).more hb5.size)
   have HO5 := Lib.hid (Rd.ofOwn ho5)
   have HNL := Lib.hid (show ns.length ≤ 1000000 by have := HNS.out.len; omega)
   clear ho5 hb5
   dsimp only
   repeat (first | go_skip | go_guarded | go_step)
   refine (rSame_any A5 A4 ns.length c5 n4 c4 _ _ ns ns w5 HO5.out HR5.out HNL.out).mono ?_
   rintro e w6 ⟨rfl, q, rfl⟩
   rw [decide_eq_true rfl]
   have HB6 := Lib.hid (show Below w.heap.size w (w5.drewN q) from ⟨HB5.out.os, HB5.out.tape, HB5.out.output, HB5.out.size, HB5.out.block⟩)
   dsimp only
   repeat (first | go_skip | go_guarded | go_step)
   refine (pWorks_any ok _ (ok.later _ _ HPW.out HB6.out)).mono ?_
   rintro e w7 ⟨rfl, hb7⟩
   have HB7 := Lib.hid (HB6.out.trans (hb7.mono HB6.out.size))
   clear hb7
   dsimp only
   repeat (first | go_skip | go_guarded | go_step)
   go_ret
   exact ⟨rfl, HB7.out⟩
  ·
   dsimp only
   repeat (first | go_skip | go_guarded | go_step)
   refine (pWorks_any ok w1 (ok.later _ _ HPW.out hb1)).mono ?_
   rintro e w2 ⟨rfl, hb⟩
   dsimp only
   repeat (first | go_skip | go_guarded | go_step)
   go_ret
   exact ⟨rfl, hb1.trans (hb.mono hb1.size)⟩
end Go.Proofs.YtoigpbajefkpoaaGreatDoor.parseText

set_option linter.unusedVariables false
set_option linter.unusedSimpArgs false
namespace Go.Proofs.YtoigpbajefkpoaaGreatDoor
open Go Go.RowKit

/-! ### steps, as plain mathematics -/
def hdE (sz : Nat) (l : List Wd) : Wd := match l with | [] => (0, [], sz) | w :: _ => w
theorem hdE_kind (sz : Nat) (l : List Wd) : (hdE sz l).1 = kindE l := by cases l <;> rfl
theorem hdE_place (sz : Nat) (l : List Wd) : (hdE sz l).2.2 = placeE sz l := by cases l <;> rfl
theorem hdE_tx (sz : Nat) (l : List Wd) : (⟨(hdE sz l).2.1.toArray⟩ : ByteArray) = txE l := by cases l <;> rfl
def takeE (sz : Nat) (ks : List Nat) (s : PS) : Except PE (Wd × PS) := if kindE s.1 ∈ ks then .ok (hdE sz s.1, nextE s) else .error (5, placeE sz s.1)
def numE (x : Wd) (s : PS) : Except PE (Nat × PS) :=
 match findO s.2.1 ⟨x.2.1.toArray⟩ with
 | some i => .ok (i, s)
 | none => if 4096 ≤ s.2.1.length then .error (6, x.2.2) else .ok (s.2.1.length, (s.1, s.2.1 ++ [⟨x.2.1.toArray⟩], s.2.2))
def varE (x : Wd) (s : PS) : Except PE (Nat × PS) :=
 match findO s.2.2 ⟨x.2.1.toArray⟩ with
 | some i => .ok (i, s)
 | none => if 16 ≤ s.2.2.length then .error (6, x.2.2) else .ok (s.2.2.length, (s.1, s.2.1, s.2.2 ++ [⟨x.2.1.toArray⟩]))
theorem name_eq (sz : Nat) (s : PS) : nameE sz s = bindE (takeE sz [1] s) numE := by
 unfold nameE takeE
 by_cases h : kindE s.1 = 1
 ·
  rw [if_pos h, if_pos (show kindE s.1 ∈ [1] by simp [h])]
  show _ = numE (hdE sz s.1) (nextE s)
  unfold numE
  rw [hdE_tx, hdE_place]
  dsimp only
  cases findO s.2.1 (txE s.1) <;> rfl
 ·
  rw [if_neg h, if_neg (show ¬ kindE s.1 ∈ [1] by simp [h])]
  rfl
theorem term_eq (sz : Nat) (s : PS) : termE sz s = bindE (takeE sz [1, 2] s) fun x s1 => if x.1 = 2 then bindE (varE x s1) fun i s2 => .ok ((true, UInt32.ofNat i), s2) else bindE (numE x s1) fun i s2 => .ok ((false, UInt32.ofNat i), s2) := by
 unfold termE takeE
 by_cases h : kindE s.1 = 2
 ·
  rw [if_pos h, if_pos (show kindE s.1 ∈ [1, 2] by simp [h])]
  show _ = (if (hdE sz s.1).1 = 2 then bindE (varE (hdE sz s.1) (nextE s)) _ else _)
  rw [hdE_kind, if_pos h]
  unfold varE
  rw [hdE_tx, hdE_place]
  dsimp only
  cases findO s.2.2 (txE s.1) with
  | some i => rfl
  | none =>
   dsimp only
   split <;> rfl
 ·
  rw [if_neg h]
  by_cases h1 : kindE s.1 = 1
  ·
   rw [if_pos (show kindE s.1 ∈ [1, 2] by simp [h1]), name_eq, takeE, if_pos (show kindE s.1 ∈ [1] by simp [h1])]
   show bindE (numE (hdE sz s.1) (nextE s)) _ = (if (hdE sz s.1).1 = 2 then _ else bindE (numE (hdE sz s.1) (nextE s)) _)
   rw [hdE_kind, if_neg h]
  ·
   rw [if_neg (show ¬ kindE s.1 ∈ [1, 2] by simp [h, h1]), name_eq, takeE, if_neg (show ¬ kindE s.1 ∈ [1] by simp [h1])]
   rfl
/-- A word that is of use as a name. -/
def NmW (x : Wd) : Prop := Nm ⟨x.2.1.toArray⟩
theorem gs_take {sz : Nat} {ks : List Nat} {s s' : PS} {x : Wd} (h : Gs s) (hf : takeE sz ks s = .ok (x, s')) : Gs s' ∧ (x.1 = 1 → NmW x) ∧ x.1 ∈ ks := by
 unfold takeE at hf
 split at hf
 ·
  rename_i hk
  simp only [Except.ok.injEq, Prod.mk.injEq] at hf
  obtain ⟨rfl, rfl⟩ := hf
  refine ⟨(gs_next h).gs, fun h1 => ?_, by rw [hdE_kind]; exact hk⟩
  rw [hdE_kind] at h1
  obtain ⟨l, N, V⟩ := s
  cases l with
  | nil => cases h1
  | cons w l => exact h.ws w (by simp) h1
 ·
  cases hf
theorem gs_num {s s' : PS} {x : Wd} {i : Nat} (h : Gs s) (hx : NmW x) (hf : numE x s = .ok (i, s')) : Gs s' ∧ i < 4096 := by
 have h2 := h.good.len
 unfold numE at hf
 split at hf
 ·
  rename_i j hj
  simp only [Except.ok.injEq, Prod.mk.injEq] at hf
  obtain ⟨rfl, rfl⟩ := hf
  have h1 := findO_lt hj
  exact ⟨h, by omega⟩
 ·
  rename_i hj
  split at hf
  ·
   cases hf
  ·
   rename_i hl
   simp only [Except.ok.injEq, Prod.mk.injEq] at hf
   obtain ⟨rfl, rfl⟩ := hf
   refine ⟨⟨h.ws, ?_, h.nodup, h.few⟩, by omega⟩
   have hg := h.good
   refine ⟨?_, ?_, ?_⟩
   ·
    rw [List.nodup_append]
    exact ⟨hg.nodup, by simp, fun a ha b hb e => findO_mem.1 hj (by simp at hb; rw [← hb, ← e]; exact ha)⟩
   ·
    intro y hy
    rcases List.mem_append.1 hy with h1 | h1
    ·
     exact hg.may y h1
    ·
     rw [List.mem_singleton] at h1
     rw [h1]
     exact hx.2
   ·
    simp
    omega
theorem gs_var {s s' : PS} {x : Wd} {i : Nat} (h : Gs s) (hf : varE x s = .ok (i, s')) : Gs s' ∧ i < 16 := by
 have h2 := h.few
 unfold varE at hf
 split at hf
 ·
  rename_i j hj
  simp only [Except.ok.injEq, Prod.mk.injEq] at hf
  obtain ⟨rfl, rfl⟩ := hf
  have h1 := findO_lt hj
  exact ⟨h, by omega⟩
 ·
  rename_i hj
  split at hf
  ·
   cases hf
  ·
   rename_i hl
   simp only [Except.ok.injEq, Prod.mk.injEq] at hf
   obtain ⟨rfl, rfl⟩ := hf
   refine ⟨⟨h.ws, h.good, ?_, by simp; omega⟩, by omega⟩
   show (s.2.2 ++ [_]).Nodup
   rw [List.nodup_append]
   exact ⟨h.nodup, by simp, fun a ha b hb e => findO_mem.1 hj (by simp at hb; rw [← hb, ← e]; exact ha)⟩

/-! ### the state in memory -/
abbrev LT : TypeId := 75
abbrev LW : TypeId := 72
abbrev LTab : TypeId := 88
theorem Tb.types {w : World} {g : Nat} {F : Nat → Prop} {l : List ByteArray} (h : Tb w g F l) {k : Nat} (hk : F k) {cs : Array Value} {t : TypeId} {fr : Nat × Nat} (ho : w.heap[k]? = some (.cells cs t fr)) : t = LTab ∨ t = 9 := by
 obtain ⟨X, M, ⟨A, c, h1, h2, h3, h4, h5⟩, rfl⟩ := h
 rcases hk with rfl | hk | hk
 ·
  have := ho.symm.trans h1
  simp only [Option.some.injEq, Obj.cells.injEq] at this
  exact .inl this.2.1
 ·
  rw [h4] at hk
  rcases h2.2 with ⟨h0, _⟩ | ⟨g', cap, cur, h0, hg, hc, _⟩
  ·
   simp only [Value.slice.injEq] at h0
   rw [h0.1] at hk
   simp [Value.ownBlock] at hk
  ·
   simp only [Value.slice.injEq] at h0
   rw [h0.1] at hk
   simp only [Value.ownBlock, Option.some.injEq] at hk
   subst hk
   have := ho.symm.trans hc
   simp only [Option.some.injEq, Obj.cells.injEq] at this
   exact .inr this.2.1
 ·
  rcases h3 with ⟨h, _⟩ | ⟨m, h, h6⟩
  ·
   rw [h] at hk
   cases hk
  ·
   rw [h] at hk
   cases hk
   obtain ⟨D, hm, _⟩ := h6
   obtain ⟨es, n, hh, _⟩ := hm
   have := ho.symm.trans hh
   cases this
/-- The words in memory, from a place on. -/
def WR (w : World) (b o : Nat) (L : List Wd) : Prop := (∃ cs fr, w.heap[b]? = some (.cells cs LW fr)) ∧
 ∀ (i : Nat) (x : Wd), L[i]? = some x → w.cell? ⟨b, o + 3 * i, none⟩ = some (.int .u8 (x.1 : Int)) ∧ w.cell? ⟨b, o + 3 * i + 1, none⟩ = some (strV x.2.1) ∧ w.cell? ⟨b, o + 3 * i + 2, none⟩ = some (.int .i64 (x.2.2 : Int))
theorem WR.lt {w : World} {b o : Nat} {L : List Wd} (h : WR w b o L) : b < w.heap.size := by
 obtain ⟨⟨cs, fr, h⟩, _⟩ := h
 exact (Array.getElem?_eq_some_iff.1 h).1
theorem WR.turn {w w' : World} {b o : Nat} {L : List Wd} {G : Nat → Prop} (h : WR w b o L) (ht : Turn G w w') (hn : ¬ G b) : WR w' b o L := by
 have hlt := h.lt
 obtain ⟨⟨cs, fr, h1⟩, h2⟩ := h
 refine ⟨⟨cs, fr, (ht.block b hlt hn).trans h1⟩, fun i x hx => ?_⟩
 obtain ⟨e1, e2, e3⟩ := h2 i x hx
 exact ⟨(ht.cell (p := ⟨b, o + 3 * i, none⟩) hlt hn).trans e1, (ht.cell (p := ⟨b, o + 3 * i + 1, none⟩) hlt hn).trans e2, (ht.cell (p := ⟨b, o + 3 * i + 2, none⟩) hlt hn).trans e3⟩
theorem WR.tail {w : World} {b o : Nat} {x : Wd} {L : List Wd} (h : WR w b o (x :: L)) : WR w b (o + 3) L := by
 refine ⟨h.1, fun i y hy => ?_⟩
 obtain ⟨e1, e2, e3⟩ := h.2 (i + 1) y (by simpa using hy)
 rw [show o + 3 * (i + 1) = o + 3 + 3 * i by omega] at e1 e2 e3
 exact ⟨e1, e2, e3⟩
/-- The blocks that the parser's own things are made of. -/
def LFp (g : Nat) (Ff : Nat → Prop) (v : Value) (k : Nat) : Prop := k = g ∨ Ff k ∨ v.ownBlock = some k
/-- The parser at block g, F: its blocks; the table at gt, of the blocks Ft, holds l0; the text has sz bytes; s: the words left, the names, the variables. -/
def LSt (gt : Nat) (Ft : Nat → Prop) (l0 : List ByteArray) (sz wb : Nat) (w : World) (F : Nat → Prop) (g : Nat) (s : PS) : Prop :=
 ∃ (o c : Nat) (AV : Option Addr) (nV cV gf : Nat) (Ff : Nat → Prop) (ns : List ByteArray),
  Bk w g LT [.slice (some ⟨wb, o, none⟩) (s.1.length + 1) c, .pointer (some ⟨gt, 0, none⟩), .pointer (some ⟨gf, 0, none⟩), .slice AV nV cV] ∧
  WR w wb o (s.1 ++ [(0, [], sz)]) ∧ s.1.length + 1 ≤ c ∧ s.1.length ≤ 70000 ∧ Tb w gt Ft l0 ∧ Tb w gf Ff ns ∧ s.2.1 = l0 ++ ns ∧ OwS w 0 AV cV nV s.2.2 ∧
  F = LFp g Ff (.slice AV nV cV) ∧ (∀ k, Ff k → ¬ Ft k) ∧ (∀ k, (Value.slice AV nV cV).ownBlock = some k → ¬ Ff k ∧ ¬ Ft k) ∧ Gs s
/-- What turns in a step: the parser's own blocks; it may get new ones. -/
structure Mv (F F' : Nat → Prop) (w w' : World) : Prop where
 turn : Turn F w w'
 grow : ∀ k, F' k → F k ∨ w.heap.size ≤ k
theorem Mv.refl (F : Nat → Prop) (w : World) : Mv F F w w := ⟨Turn.refl _ _, fun _ h => .inl h⟩
theorem Mv.later {F F' : Nat → Prop} {a b c : World} (h : Mv F F' a b) (hb : Below a.heap.size b c) : Mv F F' a c :=
 ⟨h.turn.then_ (Turn.ofBelowB (G := fun k => a.heap.size ≤ k) hb (fun k h _ => h)) (fun k hk h => absurd hk (by omega)), h.grow⟩
theorem Mv.trans {F F' F'' : Nat → Prop} {a b c : World} (h : Mv F F' a b) (k : Mv F' F'' b c) : Mv F F'' a c := by
 have hsz := h.turn.size
 refine ⟨h.turn.then_ k.turn (fun i hi hg => ?_), fun i hi => ?_⟩
 ·
  rcases h.grow i hg with h | h
  ·
   exact h
  ·
   omega
 ·
  rcases k.grow i hi with h1 | h1
  ·
   exact h.grow i h1
  ·
   exact .inr (by omega)
theorem Mv.endT {F F' : Nat → Prop} {a b c : World} (h : Mv F F' a b) (k : Turn F' b c) : Turn F a c :=
 (h.trans ⟨k, fun _ h => .inl h⟩ : Mv F F' a c).turn
theorem Mv.ofBelow {F : Nat → Prop} {w w' : World} (h : Below w.heap.size w w') : Mv F F w w' := (Mv.refl F w).later h
/-- The parser's own panic. -/
abbrev pnc (z : PE) : Ending := .panicked [{ v := .iface 144 (.agg #[.int .i64 (z.2 : Int), .int .i64 (z.1 : Int)]), recovered := false }]
section
variable {gt : Nat} {Ft : Nat → Prop} {l0 : List ByteArray} {sz wb : Nat} {w w' : World} {F : Nat → Prop} {g : Nat} {s : PS}
theorem LSt.gs (h : LSt gt Ft l0 sz wb w F g s) : Gs s := by
 obtain ⟨o, c, AV, nV, cV, gf, Ff, ns, h1, h2, h3, h4, h5, h6, h7, h8, h9, h10, h11, h12⟩ := h
 exact h12
theorem LSt.at_ (h : LSt gt Ft l0 sz wb w F g s) : F g ∧ g < w.heap.size := by
 obtain ⟨o, c, AV, nV, cV, gf, Ff, ns, h1, h2, h3, h4, h5, h6, h7, h8, rfl, h10, h11, h12⟩ := h
 exact ⟨.inl rfl, h1.lt⟩
theorem LSt.tab (h : LSt gt Ft l0 sz wb w F g s) : Tb w gt Ft l0 := by
 obtain ⟨o, c, AV, nV, cV, gf, Ff, ns, h1, h2, h3, h4, h5, h6, h7, h8, rfl, h10, h11, h12⟩ := h
 exact h5
theorem LSt.bk (h : LSt gt Ft l0 sz wb w F g s) : ∃ cs, Bk w g LT cs := by
 obtain ⟨o, c, AV, nV, cV, gf, Ff, ns, h1, _⟩ := h
 exact ⟨_, h1⟩
theorem LSt.types (h : LSt gt Ft l0 sz wb w F g s) {k : Nat} (hk : F k) {cs : Array Value} {t : TypeId} {fr : Nat × Nat} (ho : w.heap[k]? = some (.cells cs t fr)) : t = LT ∨ t = LTab ∨ t = 9 := by
 obtain ⟨o, c, AV, nV, cV, gf, Ff, ns, h1, h2, h3, h4, h5, h6, h7, h8, rfl, h10, h11, h12⟩ := h
 rcases hk with rfl | hk | hk
 ·
  have := ho.symm.trans h1
  simp only [Option.some.injEq, Obj.cells.injEq] at this
  exact .inl this.2.1
 ·
  exact .inr (h6.types hk ho)
 ·
  rcases h8.2 with ⟨h0, _⟩ | ⟨g', cap, cur, h0, hg, hc, _⟩
  ·
   simp only [Value.slice.injEq] at h0
   rw [h0.1] at hk
   simp [Value.ownBlock] at hk
  ·
   simp only [Value.slice.injEq] at h0
   rw [h0.1] at hk
   simp only [Value.ownBlock, Option.some.injEq] at hk
   subst hk
   have := ho.symm.trans hc
   simp only [Option.some.injEq, Obj.cells.injEq] at this
   exact .inr (.inr this.2.1)
theorem LSt.lt (h : LSt gt Ft l0 sz wb w F g s) : ∀ k, F k → k < w.heap.size := by
 obtain ⟨o, c, AV, nV, cV, gf, Ff, ns, h1, h2, h3, h4, h5, h6, h7, h8, rfl, h10, h11, h12⟩ := h
 rintro k (rfl | hk | hk)
 ·
  exact h1.lt
 ·
  exact h6.lt k hk
 ·
  exact (World.ownsRow.lt h8 k hk).2
theorem LSt.notT (h : LSt gt Ft l0 sz wb w F g s) {k : Nat} (hk : F k) : ¬ Ft k := by
 obtain ⟨o, c, AV, nV, cV, gf, Ff, ns, h1, h2, h3, h4, h5, h6, h7, h8, rfl, h10, h11, h12⟩ := h
 rcases hk with rfl | hk | hk
 ·
  intro hf
  rcases h5.types hf h1 with h | h <;> exact absurd h (by decide)
 ·
  exact h10 k hk
 ·
  exact (h11 k hk).2
/-- Blocks of other types turn. -/
theorem LSt.other {G : Nat → Prop} (h : LSt gt Ft l0 sz wb w F g s) (ht : Turn G w w') (hg : ∀ k, G k → k < w.heap.size → ∃ cs t fr, w.heap[k]? = some (.cells cs t fr) ∧ t ≠ LT ∧ t ≠ LTab ∧ t ≠ 9 ∧ k ≠ wb) : LSt gt Ft l0 sz wb w' F g s := by
 have hty := fun k hk cs t fr ho => h.types (k := k) hk (cs := cs) (t := t) (fr := fr) ho
 have hlt := h.lt
 obtain ⟨o, c, AV, nV, cV, gf, Ff, ns, h1, h2, h3, h4, h5, h6, h7, h8, rfl, h10, h11, h12⟩ := h
 have hF : ∀ k, LFp g Ff (.slice AV nV cV) k → ¬ G k := fun k hk hG => by
  obtain ⟨cs, t, fr, ho, e1, e2, e3, e4⟩ := hg k hG (hlt k hk)
  rcases hty k hk cs t fr ho with h | h | h
  ·
   exact e1 h
  ·
   exact e2 h
  ·
   exact e3 h
 refine ⟨o, c, AV, nV, cV, gf, Ff, ns, ht.bk h1 (hF g (.inl rfl)), h2.turn ht (fun hG => ?_), h3, h4, h5.turn ht (fun k hk hG => ?_), h6.turn ht (fun k hk => hF k (.inr (.inl hk))), h7, ht.own h8 (fun k hk => hF k (.inr (.inr hk))), rfl, h10, h11, h12⟩
 ·
  obtain ⟨cs, t, fr, ho, e1, e2, e3, e4⟩ := hg wb hG h2.lt
  exact e4 rfl
 ·
  obtain ⟨cs, t, fr, ho, e1, e2, e3, e4⟩ := hg k hG (h5.lt k hk)
  rcases h5.types hk ho with h | h
  ·
   exact e2 h
  ·
   exact e3 h
theorem LSt.wtype (h : LSt gt Ft l0 sz wb w F g s) {cs : Array Value} {t : TypeId} {fr : Nat × Nat} {k : Nat} (ho : w.heap[k]? = some (.cells cs t fr)) (ht : t ≠ LW) : k ≠ wb := by
 obtain ⟨o, c, AV, nV, cV, gf, Ff, ns, h1, h2, _⟩ := h
 rintro rfl
 obtain ⟨cs', fr', hb⟩ := h2.1
 have := ho.symm.trans hb
 simp only [Option.some.injEq, Obj.cells.injEq] at this
 exact ht this.2.1
theorem LSt.wlt (h : LSt gt Ft l0 sz wb w F g s) : wb < w.heap.size := by
 obtain ⟨o, c, AV, nV, cV, gf, Ff, ns, h1, h2, _⟩ := h
 exact h2.lt
theorem LSt.later (h : LSt gt Ft l0 sz wb w F g s) (hb : Below w.heap.size w w') : LSt gt Ft l0 sz wb w' F g s :=
 h.other (Turn.ofBelow (G := fun _ => False) hb) (fun k hk _ => hk.elim)
theorem own_type {w : World} {base : Nat} {e : TypeId} {s n : Nat} {v : Value} {xs : List Value} (h : w.ownsRow base e s v n xs) {k : Nat} (hk : v.ownBlock = some k) : ∃ cs t fr, w.heap[k]? = some (.cells cs t fr) ∧ t = e := by
 rcases h.2 with ⟨rfl, _⟩ | ⟨g', cap, cur, rfl, _, hc, _⟩
 ·
  simp [Value.ownBlock] at hk
 ·
  simp only [Value.ownBlock, Option.some.injEq] at hk
  subst hk
  exact ⟨_, _, _, hc, rfl⟩
/-- A row of another type grows. -/
theorem LSt.grown {base : Nat} {e : TypeId} {u n : Nat} {v : Value} {xs : List Value} (h : LSt gt Ft l0 sz wb w F g s) (ho : w.ownsRow base e u v n xs) (hg : w.grownBy w' v.ownBlock) (h1 : e ≠ LT) (h2 : e ≠ LTab) (h3 : e ≠ 9) (h4 : e ≠ LW) : LSt gt Ft l0 sz wb w' F g s :=
 h.other (Turn.ofGrown (G := fun k => v.ownBlock = some k) hg (fun k hk => hk)) (fun k hk _ => by
  obtain ⟨cs, t, fr, hh, rfl⟩ := own_type ho hk
  exact ⟨cs, t, fr, hh, h1, h2, h3, h.wtype hh h4⟩)
/-- A block of another type turns. -/
theorem LSt.only {b : Nat} {t : TypeId} {cs : List Value} (h : LSt gt Ft l0 sz wb w F g s) (hb : Bk w b t cs) (ht : Turn (fun k => k = b) w w') (h1 : t ≠ LT) (h2 : t ≠ LTab) (h3 : t ≠ 9) (h4 : b ≠ wb) : LSt gt Ft l0 sz wb w' F g s :=
 h.other ht (fun k hk _ => by subst hk; exact ⟨_, t, _, hb, h1, h2, h3, h4⟩)
/-- A row of another type stays in a step of the parser. -/
theorem LSt.own {base : Nat} {e : TypeId} {u n : Nat} {v : Value} {xs : List Value} (h : LSt gt Ft l0 sz wb w F g s) (ht : Turn F w w') (ho : w.ownsRow base e u v n xs) (h1 : e ≠ LT) (h2 : e ≠ LTab) (h3 : e ≠ 9) : w'.ownsRow base e u v n xs :=
 ht.own ho (fun k hk hF => by
  obtain ⟨cs, t, fr, hh, rfl⟩ := own_type ho hk
  rcases h.types hF hh with e | e | e
  ·
   exact h1 e
  ·
   exact h2 e
  ·
   exact h3 e)
/-- A block of another type stays in a step of the parser. -/
theorem LSt.keeps {b : Nat} {t : TypeId} {cs : List Value} (h : LSt gt Ft l0 sz wb w F g s) (ht : Turn F w w') (hb : Bk w b t cs) (h1 : t ≠ LT) (h2 : t ≠ LTab) (h3 : t ≠ 9) : Bk w' b t cs :=
 ht.bk hb (fun hF => by
  rcases h.types hF hb with e | e | e
  ·
   exact h1 e
  ·
   exact h2 e
  ·
   exact h3 e)
/-- What a word of the parser reads in memory. -/
theorem LSt.head (h : LSt gt Ft l0 sz wb w F g s) : ∃ (o c : Nat), w.cell? ⟨g, 0, none⟩ = some (.slice (some ⟨wb, o, none⟩) (s.1.length + 1) c) ∧ w.frozen? ⟨g, 0, none⟩ = false ∧ s.1.length + 1 ≤ c ∧
  w.cell? ⟨wb, o, none⟩ = some (.int .u8 (kindE s.1 : Int)) ∧ w.cell? ⟨wb, o + 1, none⟩ = some (strV (hdE sz s.1).2.1) ∧ w.cell? ⟨wb, o + 2, none⟩ = some (.int .i64 (placeE sz s.1 : Int)) ∧ wb < w.heap.size ∧ s.1.length ≤ 70000 := by
 obtain ⟨o, c, AV, nV, cV, gf, Ff, ns, h1, h2, h3, h4, h5, h6, h7, h8, rfl, h10, h11, h12⟩ := h
 refine ⟨o, c, h1.readT (Below.refl _ _) 0 rfl, h1.frozen 0, h3, ?_, ?_, ?_, h2.lt, h4⟩
 all_goals
  obtain ⟨e1, e2, e3⟩ := h2.2 0 (hdE sz s.1) (by cases s.1 <;> rfl)
  rw [hdE_kind] at e1
  rw [hdE_place] at e3
  first | exact e1 | exact e2 | exact e3
/-- The parser goes past a word. -/
theorem LSt.next (h : LSt gt Ft l0 sz wb w F g s) {o c : Nat} (hc : w.cell? ⟨g, 0, none⟩ = some (.slice (some ⟨wb, o, none⟩) (s.1.length + 1) c)) (hne : s.1 ≠ []) : LSt gt Ft l0 sz wb (w.setCell ⟨g, 0, none⟩ (.slice (some ⟨wb, o + 3, none⟩) s.1.length (c - 1))) F g (nextE s) ∧ Turn F w (w.setCell ⟨g, 0, none⟩ (.slice (some ⟨wb, o + 3, none⟩) s.1.length (c - 1))) := by
 have ht : Turn F w (w.setCell ⟨g, 0, none⟩ (.slice (some ⟨wb, o + 3, none⟩) s.1.length (c - 1))) := (Turn.refl F w).setCell (p := ⟨g, 0, none⟩) (fun _ => h.at_.1) _
 refine ⟨?_, ht⟩
 obtain ⟨o', c', AV, nV, cV, gf, Ff, ns, h1, h2, h3, h4, h5, h6, h7, h8, rfl, h10, h11, h12⟩ := h
 have hc' := h1.readT (Below.refl _ _) 0 rfl
 rw [hc] at hc'
 simp only [Option.some.injEq, Value.slice.injEq, Addr.mk.injEq] at hc'
 obtain ⟨⟨_, rfl, _⟩, _, rfl⟩ := hc'
 have htg : Turn (fun k => k = g) w (w.setCell ⟨g, 0, none⟩ (.slice (some ⟨wb, o + 3, none⟩) s.1.length (c - 1))) := (Turn.refl (fun k => k = g) w).setCell (p := ⟨g, 0, none⟩) (fun _ => rfl) _
 obtain ⟨x, l, hl⟩ : ∃ x l, s.1 = x :: l := by
  cases hs : s.1 with
  | nil => exact absurd hs hne
  | cons x l => exact ⟨x, l, rfl⟩
 have hlen : s.1.length = (nextE s).1.length + 1 := by show s.1.length = s.1.tail.length + 1; rw [hl]; rfl
 have hn1 : ∀ {e : TypeId} {base u n : Nat} {v : Value} {xs : List Value}, w.ownsRow base e u v n xs → e ≠ LT → ∀ k, v.ownBlock = some k → ¬ (k = g) := fun ho he k hk e => by
  subst e
  obtain ⟨cs, t, fr, hh, rfl⟩ := own_type ho hk
  have := hh.symm.trans h1
  simp only [Option.some.injEq, Obj.cells.injEq] at this
  exact he this.2.1
 have hn2 : ∀ {G : Nat → Prop} {q : Nat} {l : List ByteArray}, Tb w q G l → ∀ k, G k → ¬ (k = g) := fun hT k hk e => by
  subst e
  rcases hT.types hk h1 with e | e <;> exact absurd e (by decide)
 refine ⟨o + 3, c - 1, AV, nV, cV, gf, Ff, ns, ?_, ?_, by omega, by omega, h5.turn htg (hn2 h5), h6.turn htg (hn2 h6), h7, htg.own h8 (hn1 h8 (by decide)), rfl, h10, h11, (gs_next h12).gs⟩
 ·
  have := h1.set_ 0 (.slice (some ⟨wb, o + 3, none⟩) s.1.length (c - 1))
  rw [hlen] at this ⊢
  exact this
 ·
  refine WR.turn ?_ htg (fun e => ?_)
  ·
   rw [hl] at h2
   have := h2.tail
   show WR w wb (o + 3) (s.1.tail ++ _)
   rw [hl]
   exact this
  ·
   subst e
   obtain ⟨cs, fr, hb⟩ := h2.1
   have := hb.symm.trans h1
   simp only [Option.some.injEq, Obj.cells.injEq] at this
   exact absurd this.2.1 (by decide)
end
end Go.Proofs.YtoigpbajefkpoaaGreatDoor

