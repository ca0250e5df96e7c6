/- Texts, packed: PaL Arg SyO PaP PaW PaF -/
import Derived.Test.YtoigpbajefkpoaaGreatDoorPyC
import Derived.Test.YtoigpbajefkpoaaGreatDoorPyA
import Derived.Test.YtoigpbajefkpoaaGreatDoorRows
import Derived.Test.YtoigpbajefkpoaaGreatDoorPyB
import Derived.SliceStrings
import Derived.Test.YtoigpbajefkpoaaGreatDoorPyH
import Derived.ChangeMaps
import Derived.Lib.SmallJoins
import Derived.Deep.SlicePairs
import Derived.Deep.Strs
set_option linter.unusedVariables false
set_option linter.unusedSimpArgs false
namespace Go.Proofs.YtoigpbajefkpoaaGreatDoor
open Go Go.RowKit

theorem fword_let {tx : List UInt8} {n : Nat} (h : wordN tx = (1, n)) : letN tx = n ∧ 1 ≤ n ∧ n ≤ 32 ∧ kindL (tx.take n) = 1 := by
 unfold wordN at h
 split at h
 ·
  rename_i h0
  unfold markN at h
  split at h
  ·
   simp at h
  ·
   split at h
   ·
    simp at h
   ·
    split at h
    ·
     simp at h
    ·
     split at h
     ·
      simp at h
     ·
      split at h
      ·
       simp at h
      ·
       split at h <;> simp at h
 ·
  split at h
  ·
   simp at h
  ·
   rename_i h1
   simp only [Prod.mk.injEq] at h
   obtain ⟨h2, h3⟩ := h
   subst h3
   refine ⟨rfl, by omega, by omega, h2⟩
theorem ftake_all {p : UInt8 → Bool} : ∀ (l : List UInt8), (l.takeWhile p).length = l.length → l.all p = true
 | [], _ => rfl
 | c :: l, h => by
  cases hc : p c with
  | false => simp [List.takeWhile_cons, hc] at h
  | true =>
   simp [List.takeWhile_cons, hc] at h
   have := ftake_all l h
   simp only [List.all_cons, hc, this, Bool.and_self]
/-- A name as a word. -/
def Nm (s : ByteArray) : Prop := plainB s = true ∧ mayB s = true
theorem alone_name {w : Wd} (h1 : wordN w.2.1 = (w.1, w.2.1.length)) (h2 : w.2.1 ≠ []) (h3 : ∀ x, blN false (w.2.1 ++ x) = 0) (hk : w.1 = 1) : Nm ⟨w.2.1.toArray⟩ := by
 obtain ⟨k, tx, a⟩ := w
 dsimp only at h1 h2 h3 hk
 subst hk
 obtain ⟨e1, e2, e3, e4⟩ := fword_let h1
 have htb : tb (⟨tx.toArray⟩ : ByteArray) = tx := rfl
 have hsz : (⟨tx.toArray⟩ : ByteArray).size = tx.length := rfl
 constructor
 ·
  have hz : blN false tx = 0 := by have := h3 []; simpa using this
  have : wordsL tx = ([(1, tx, 0)], 0, 0) := by
   refine wordsL_ok (by omega) ?_
   rw [lexG_word (l1 := tx) (k := 1) (n := tx.length) (by rw [hz]; rfl) h1 (by omega), hz, List.take_length, List.drop_length]
   rw [lexG_end (by decide)]
  unfold plainB
  rw [htb, this]
  simp
 ·
  unfold mayB
  rw [hsz]
  have := ftake_all (p := okB) tx e1
  rw [show (⟨tx.toArray⟩ : ByteArray).data.toList = tx from rfl, this]
  simp
  omega
/-- Words of which each Name is one. -/
def Ws (l : List Wd) : Prop := ∀ w ∈ l, w.1 = 1 → Nm ⟨w.2.1.toArray⟩
theorem Ws.tail {l : List Wd} (h : Ws l) : Ws l.tail := fun w hw => h w (List.mem_of_mem_tail hw)
theorem ws_alone {l : List Wd} (h : Alone l) : Ws l := fun w hw hk => alone_name (h w hw).1 (h w hw).2.1 (h w hw).2.2 hk
/-- A state that can be. -/
structure Gs (s : PS) : Prop where
 ws : Ws s.1
 good : Good 4096 s.2.1
 nodup : s.2.2.Nodup
 few : s.2.2.length ≤ 16
/-- A number that is a name's. -/
def Nin (N : List ByteArray) (i : Nat) : Prop := ∃ x, N[i]? = some x ∧ plainB x = true
def Tin (N : List ByteArray) (v : Nat) (t : Tm) : Prop := if t.1 then t.2.toNat < v else Nin N t.2.toNat
theorem Nin.app {N X : List ByteArray} {i : Nat} (h : Nin N i) : Nin (N ++ X) i := by
 obtain ⟨x, h1, h2⟩ := h
 exact ⟨x, by rw [List.getElem?_append_left (List.getElem?_eq_some_iff.1 h1).1]; exact h1, h2⟩
theorem Tin.app {N X : List ByteArray} {v v' : Nat} {t : Tm} (h : Tin N v t) (hv : v ≤ v') : Tin (N ++ X) v' t := by
 unfold Tin at h ⊢
 split
 ·
  rename_i ht
  rw [if_pos ht] at h
  omega
 ·
  rename_i ht
  rw [if_neg ht] at h
  exact h.app
theorem comeG_app : ∀ (a b : List Tm) (k : Nat), comeG k (a ++ b) = (comeG k a).bind fun j => comeG j b
 | [], b, k => rfl
 | t :: a, b, k => by
  rw [List.cons_append, comeG, comeG]
  split
  ·
   split
   ·
    rfl
   ·
    split <;> exact comeG_app a b _
  ·
   exact comeG_app a b k
/-- From one state on to another, by these terms. -/
structure Gd (s s' : PS) (ts : List Tm) : Prop where
 gs : Gs s'
 names : ∃ X, s'.2.1 = s.2.1 ++ X
 vars : s.2.2.length ≤ s'.2.2.length
 come : comeG s.2.2.length ts = some s'.2.2.length
 known : ∀ t ∈ ts, Tin s'.2.1 s'.2.2.length t
theorem Gd.refl {s : PS} (h : Gs s) : Gd s s [] := ⟨h, ⟨[], by simp⟩, Nat.le_refl _, rfl, by simp⟩
theorem Gd.trans {s s1 s2 : PS} {a b : List Tm} (h : Gd s s1 a) (k : Gd s1 s2 b) : Gd s s2 (a ++ b) := by
 obtain ⟨X, hX⟩ := h.names
 obtain ⟨Y, hY⟩ := k.names
 refine ⟨k.gs, ⟨X ++ Y, by rw [hY, hX, List.append_assoc]⟩, Nat.le_trans h.vars k.vars, ?_, ?_⟩
 ·
  rw [comeG_app, h.come]
  exact k.come
 ·
  intro t ht
  rcases List.mem_append.1 ht with h1 | h1
  ·
   rw [hY]
   exact (h.known t h1).app k.vars
  ·
   exact k.known t h1
theorem Gd.nin {s s1 : PS} {a : List Tm} {i : Nat} (k : Gd s s1 a) (h : Nin s.2.1 i) : Nin s1.2.1 i := by
 obtain ⟨Y, hY⟩ := k.names
 rw [hY]
 exact h.app
theorem gs_next {s : PS} (h : Gs s) : Gd s (nextE s) [] := ⟨⟨h.ws.tail, h.good, h.nodup, h.few⟩, ⟨[], by simp⟩, Nat.le_refl _, rfl, by simp⟩
theorem gs_word {sz k : Nat} {s s' : PS} {x : ByteArray} (h : Gs s) (hf : wordE sz k s = .ok (x, s')) : Gd s s' [] := by
 unfold wordE at hf
 split at hf
 ·
  simp only [Except.ok.injEq, Prod.mk.injEq] at hf
  rw [← hf.2]
  exact gs_next h
 ·
  cases hf
theorem fkind_txE {l : List Wd} {k : Nat} (h : kindE l = k) (hk : k ≠ 0) : ∃ w t, l = w :: t ∧ w.1 = k := by
 cases l with
 | nil => exact absurd h.symm hk
 | cons w t => exact ⟨w, t, rfl, h⟩
theorem gs_name {sz i : Nat} {s s' : PS} (h : Gs s) (hf : nameE sz s = .ok (i, s')) : Gd s s' [] ∧ Nin s'.2.1 i ∧ i < 4096 := by
 obtain ⟨l, N, V⟩ := s
 unfold nameE at hf
 split at hf
 ·
  rename_i hk
  obtain ⟨w, t, hl, hw⟩ := fkind_txE hk (by omega)
  dsimp only at hl
  subst hl
  have hn := h.ws w (by simp) hw
  have htx : txE (w :: t) = ⟨w.2.1.toArray⟩ := rfl
  dsimp only at hf
  rw [htx] at hf
  split at hf
  ·
   rename_i j hj
   simp only [Except.ok.injEq, Prod.mk.injEq] at hf
   obtain ⟨rfl, rfl⟩ := hf
   refine ⟨gs_next h, ⟨_, findO_get hj, hn.1⟩, ?_⟩
   have h1 := findO_lt hj
   have h2 := h.good.len
   dsimp only at h2
   omega
  ·
   rename_i hj
   split at hf
   ·
    cases hf
   ·
    rename_i hl
    simp only [Except.ok.injEq, Prod.mk.injEq] at hf
    obtain ⟨rfl, rfl⟩ := hf
    have hg := h.good
    dsimp only at hg hl
    have hgood : Good 4096 (N ++ [⟨w.2.1.toArray⟩]) := by
     refine ⟨?_, ?_, ?_⟩
     ·
      rw [List.nodup_append]
      exact ⟨hg.nodup, by simp, fun a ha b hb e => findO_mem.1 hj (by simp at hb; rw [← hb, ← e]; exact ha)⟩
     ·
      intro x hx
      rcases List.mem_append.1 hx with h1 | h1
      ·
       exact hg.may x h1
      ·
       rw [List.mem_singleton] at h1
       rw [h1]
       exact hn.2
     ·
      simp
      omega
    refine ⟨⟨⟨h.ws.tail, hgood, h.nodup, h.few⟩, ⟨_, rfl⟩, Nat.le_refl _, rfl, by simp⟩, ⟨_, by simp, hn.1⟩, by omega⟩
 ·
  cases hf
theorem ftoNat_of {i : Nat} (h : i < 4096) : (UInt32.ofNat i).toNat = i := by
 rw [UInt32.toNat_ofNat']
 exact Nat.mod_eq_of_lt (by omega)
theorem gs_term {sz : Nat} {t : Tm} {s s' : PS} (h : Gs s) (hf : termE sz s = .ok (t, s')) : Gd s s' [t] ∧ (t.1 = true → t.2.toNat < 16) := by
 unfold termE at hf
 split at hf
 ·
  rename_i hk
  obtain ⟨l, N, V⟩ := s
  have hfew := h.few
  dsimp only at hf hfew
  split at hf
  ·
   rename_i j hj
   simp only [Except.ok.injEq, Prod.mk.injEq] at hf
   obtain ⟨rfl, rfl⟩ := hf
   have h1 := findO_lt hj
   have h2 := ftoNat_of (i := j) (by omega)
   refine ⟨⟨(gs_next h).gs, ⟨[], by simp⟩, Nat.le_refl _, ?_, ?_⟩, fun _ => by dsimp only; omega⟩
   ·
    show comeG V.length [(true, UInt32.ofNat j)] = some V.length
    rw [comeG, if_pos rfl, if_neg (by dsimp only; omega), if_neg (by dsimp only; omega)]
    rfl
   ·
    intro t ht
    rw [List.mem_singleton] at ht
    subst ht
    show Tin N V.length (true, UInt32.ofNat j)
    unfold Tin
    rw [if_pos rfl]
    dsimp only
    omega
  ·
   rename_i hj
   split at hf
   ·
    cases hf
   ·
    rename_i hl
    simp only [Except.ok.injEq, Prod.mk.injEq] at hf
    obtain ⟨rfl, rfl⟩ := hf
    have h2 := ftoNat_of (i := V.length) (by omega)
    have hlen : (V ++ [txE l]).length = V.length + 1 := by simp
    refine ⟨⟨⟨h.ws.tail, h.good, ?_, ?_⟩, ⟨[], by simp⟩, ?_, ?_, ?_⟩, fun _ => by dsimp only; omega⟩
    ·
     show (V ++ [txE l]).Nodup
     rw [List.nodup_append]
     exact ⟨h.nodup, by simp, fun a ha b hb e => findO_mem.1 hj (by simp at hb; rw [← hb, ← e]; exact ha)⟩
    ·
     show (V ++ [txE l]).length ≤ 16
     omega
    ·
     show V.length ≤ (V ++ [txE l]).length
     omega
    ·
     show comeG V.length [(true, UInt32.ofNat V.length)] = some (V ++ [txE l]).length
     rw [comeG, if_pos rfl, if_neg (by dsimp only; omega), if_pos h2, hlen]
     rfl
    ·
     intro t ht
     rw [List.mem_singleton] at ht
     subst ht
     show Tin N (V ++ [txE l]).length (true, UInt32.ofNat V.length)
     unfold Tin
     rw [if_pos rfl]
     dsimp only
     omega
 ·
  obtain ⟨i, s1, h1, h2⟩ := bindE_ok hf
  simp only [Except.ok.injEq, Prod.mk.injEq] at h2
  obtain ⟨rfl, rfl⟩ := h2
  obtain ⟨a1, a2, a3⟩ := gs_name h h1
  refine ⟨⟨a1.gs, a1.names, a1.vars, ?_, ?_⟩, fun h => by cases h⟩
  ·
   have := a1.come
   rw [comeG] at this
   rw [comeG, if_neg (by simp), comeG]
   exact this
  ·
   intro t ht
   rw [List.mem_singleton] at ht
   subst ht
   unfold Tin
   rw [if_neg (by simp)]
   dsimp only
   rw [ftoNat_of a3]
   exact a2
theorem fterm_kind {sz : Nat} {t : Tm} {s s' : PS} (hf : termE sz s = .ok (t, s')) : kindE s.1 = 1 ∨ kindE s.1 = 2 := by
 unfold termE at hf
 split at hf
 ·
  rename_i hk
  exact .inr hk
 ·
  obtain ⟨i, s1, h1, h2⟩ := bindE_ok hf
  unfold nameE at h1
  split at h1
  ·
   rename_i hk
   exact .inl hk
  ·
   cases h1
theorem gs_args {sz : Nat} : ∀ (n : Nat) (acc : List Tm) {l : List Tm} {s s' : PS}, Gs s → acc.length ≤ 6 → argsE sz n acc s = .ok (l, s') →
  ∃ m, l = acc ++ m ∧ Gd s s' m ∧ l.length ≤ 6 ∧ ∀ t ∈ m, t.1 = true → t.2.toNat < 16
 | 0, acc, l, s, s', h, ha, hf => by simp [argsE] at hf
 | n + 1, acc, l, s, s', h, ha, hf => by
  rw [argsE] at hf
  split at hf
  ·
   cases hf
  ·
   rename_i h6
   obtain ⟨t, s1, h1, h2⟩ := bindE_ok hf
   obtain ⟨a1, a2⟩ := gs_term h h1
   have hk := fterm_kind h1
   have hlt : acc.length < 6 := by
    by_cases e : acc.length = 6
    ·
     exact absurd ⟨e, hk⟩ h6
    ·
     omega
   split at h2
   ·
    obtain ⟨m, rfl, b1, b2, b3⟩ := gs_args n (acc ++ [t]) (gs_next a1.gs).gs (by simp; omega) h2
    refine ⟨t :: m, by simp, ?_, b2, ?_⟩
    ·
     have := (a1.trans (gs_next a1.gs)).trans b1
     simpa using this
    ·
     intro u hu
     rcases List.mem_cons.1 hu with rfl | hu
     ·
      exact a2
     ·
      exact b3 u hu
   ·
    obtain ⟨y, s2, h3, h4⟩ := bindE_ok h2
    simp only [Except.ok.injEq, Prod.mk.injEq] at h4
    obtain ⟨rfl, rfl⟩ := h4
    refine ⟨[t], rfl, by simpa using a1.trans (gs_word a1.gs h3), by simp; omega, ?_⟩
    intro u hu
    rw [List.mem_singleton] at hu
    subst hu
    exact a2
theorem mayA_of {i : UInt32} {l : List Tm} (h : l.length ≤ 6) (h2 : ∀ t ∈ l, t.1 = true → t.2.toNat < 16) : mayA (i, l) = true := by
 unfold mayA
 rw [Bool.and_eq_true]
 refine ⟨?_, decide_eq_true h⟩
 rw [List.all_eq_true]
 intro t ht
 cases hb : t.1 with
 | false => rfl
 | true => simp [h2 t ht hb]
theorem gs_atom {sz : Nat} {a : AtL} {s s' : PS} (h : Gs s) (hf : atomE sz s = .ok (a, s')) : Gd s s' a.2 ∧ Nin s'.2.1 a.1.toNat ∧ mayA a = true := by
 unfold atomE at hf
 obtain ⟨p, s1, h1, h2⟩ := bindE_ok hf
 obtain ⟨a1, a2, a3⟩ := gs_name h h1
 split at h2
 ·
  obtain ⟨l, s2, h3, h4⟩ := bindE_ok h2
  simp only [Except.ok.injEq, Prod.mk.injEq] at h4
  obtain ⟨rfl, rfl⟩ := h4
  obtain ⟨m, rfl, b1, b2, b3⟩ := gs_args 7 [] (gs_next a1.gs).gs (by simp) h3
  have hg := (a1.trans (gs_next a1.gs)).trans b1
  refine ⟨by simpa using hg, ?_, mayA_of b2 (by simpa using b3)⟩
  rw [ftoNat_of a3]
  exact ((gs_next a1.gs).trans b1).nin a2
 ·
  simp only [Except.ok.injEq, Prod.mk.injEq] at h2
  obtain ⟨rfl, rfl⟩ := h2
  refine ⟨a1, ?_, mayA_of (by simp) (by simp)⟩
  rw [ftoNat_of a3]
  exact a2
theorem gs_say {sz : Nat} {y : Sy} {s s' : PS} (h : Gs s) (hf : sayE sz s = .ok (y, s')) : Gd s s' (termsS y) ∧ Nin s'.2.1 y.2.2.1.toNat ∧ mayS y = true := by
 unfold sayE at hf
 split at hf
 ·
  obtain ⟨t, s1, h1, h2⟩ := bindE_ok hf
  obtain ⟨x, s2, h3, h4⟩ := bindE_ok h2
  obtain ⟨a, s3, h5, h6⟩ := bindE_ok h4
  simp only [Except.ok.injEq, Prod.mk.injEq] at h6
  obtain ⟨rfl, rfl⟩ := h6
  obtain ⟨a1, a2⟩ := gs_term h h1
  have b1 := gs_word a1.gs h3
  obtain ⟨c1, c2, c3⟩ := gs_atom b1.gs h5
  refine ⟨by simpa [termsS] using (a1.trans b1).trans c1, c2, ?_⟩
  unfold mayS
  rw [c3]
  cases hb : t.1 with
  | false => simp [hb]
  | true => simp [hb, a2 hb]
 ·
  obtain ⟨a, s1, h1, h2⟩ := bindE_ok hf
  simp only [Except.ok.injEq, Prod.mk.injEq] at h2
  obtain ⟨rfl, rfl⟩ := h2
  obtain ⟨c1, c2, c3⟩ := gs_atom h h1
  refine ⟨by simpa [termsS] using c1, c2, ?_⟩
  unfold mayS
  rw [c3]
  simp
theorem fatom_kind {sz : Nat} {a : AtL} {s s' : PS} (hf : atomE sz s = .ok (a, s')) : kindE s.1 = 1 := by
 unfold atomE at hf
 obtain ⟨p, s1, h1, h2⟩ := bindE_ok hf
 unfold nameE at h1
 split at h1
 ·
  rename_i hk
  exact hk
 ·
  cases h1
theorem fsay_kind {sz : Nat} {y : Sy} {s s' : PS} (hf : sayE sz s = .ok (y, s')) : kindE s.1 = 1 ∨ kindE s.1 = 2 := by
 unfold sayE at hf
 split at hf
 ·
  obtain ⟨t, s1, h1, h2⟩ := bindE_ok hf
  exact fterm_kind h1
 ·
  obtain ⟨a, s1, h1, h2⟩ := bindE_ok hf
  exact .inl (fatom_kind h1)
/-- A say that is known. -/
def Kn (N : List ByteArray) (y : Sy) : Prop := Nin N y.2.2.1.toNat ∧ mayS y = true
theorem gs_conds {sz : Nat} : ∀ (n : Nat) (acc : List Co) {l : List Co} {s s' : PS}, Gs s → acc.length ≤ 8 → condsE sz n acc s = .ok (l, s') →
  ∃ m, l = acc ++ m ∧ Gd s s' (m.flatMap fun c => termsS c.2) ∧ l.length ≤ 8 ∧ ∀ c ∈ m, Kn s'.2.1 c.2
 | 0, acc, l, s, s', h, ha, hf => by simp [condsE] at hf
 | n + 1, acc, l, s, s', h, ha, hf => by
  rw [condsE] at hf
  split at hf
  ·
   cases hf
  ·
   rename_i h6
   obtain ⟨y, s1, h1, h2⟩ := bindE_ok hf
   have hlt : acc.length < 8 := by
    by_cases e : acc.length = 8
    ·
     exfalso
     refine h6 ⟨e, ?_⟩
     by_cases h3 : kindE s.1 = 3
     ·
      exact .inl h3
     ·
      rw [if_neg h3] at h1
      exact .inr (fsay_kind h1)
    ·
     omega
   have hs : Gd s (if kindE s.1 = 3 then nextE s else s) [] := by
    split
    ·
     exact gs_next h
    ·
     exact Gd.refl h
   obtain ⟨a1, a2, a3⟩ := gs_say hs.gs h1
   have a0 : Gd s s1 (termsS y) := by simpa using hs.trans a1
   split at h2
   ·
    obtain ⟨m, rfl, b1, b2, b3⟩ := gs_conds n _ (gs_next a1.gs).gs (by simp; omega) h2
    have b4 := (gs_next a1.gs).trans b1
    refine ⟨(decide (kindE s.1 = 3), y) :: m, by simp, ?_, b2, ?_⟩
    ·
     have := a0.trans b4
     simpa using this
    ·
     intro c hc
     rcases List.mem_cons.1 hc with rfl | hc
     ·
      exact ⟨b4.nin a2, a3⟩
     ·
      exact b3 c hc
   ·
    simp only [Except.ok.injEq, Prod.mk.injEq] at h2
    obtain ⟨rfl, rfl⟩ := h2
    refine ⟨[_], rfl, by simpa using a0, by simp; omega, ?_⟩
    intro c hc
    rw [List.mem_singleton] at hc
    subst hc
    exact ⟨a2, a3⟩
theorem gs_body {sz : Nat} {l : List Co} {s s' : PS} (h : Gs s) (hf : bodyE sz s = .ok (l, s')) : Gd s s' (l.flatMap fun c => termsS c.2) ∧ l.length ≤ 8 ∧ ∀ c ∈ l, Kn s'.2.1 c.2 := by
 unfold bodyE at hf
 split at hf
 ·
  obtain ⟨m, rfl, b1, b2, b3⟩ := gs_conds 9 [] (gs_next h).gs (by simp) hf
  refine ⟨by simpa using (gs_next h).trans b1, b2, by simpa using b3⟩
 ·
  simp only [Except.ok.injEq, Prod.mk.injEq] at hf
  obtain ⟨rfl, rfl⟩ := hf
  exact ⟨Gd.refl h, by simp, by simp⟩
theorem known_name {N : List ByteArray} {i : Nat} (hN : Good 4096 N) (h : Nin N i) : namedL N i ≠ [] := by
 obtain ⟨x, h1, h2⟩ := h
 unfold namedL
 rw [h1]
 dsimp only
 rw [if_pos h2]
 have := hN.may x (List.mem_of_getElem? h1)
 unfold mayB at this
 intro e
 have hl := tb_len x
 rw [e] at hl
 rw [← hl] at this
 simp at this
theorem known_term {N : List ByteArray} {v : Nat} {t : Tm} (hN : Good 4096 N) (h : Tin N v t) : termL N t ≠ [] := by
 unfold Tin at h
 unfold termL
 split
 ·
  simp
 ·
  rename_i ht
  rw [if_neg ht] at h
  exact known_name hN h
theorem known_say {N : List ByteArray} {v : Nat} {y : Sy} (hN : Good 4096 N) (h : Nin N y.2.2.1.toNat) (ht : ∀ t ∈ termsS y, Tin N v t) : knownB N y = true := by
 unfold knownB
 rw [Bool.and_eq_true, Bool.and_eq_true]
 refine ⟨⟨decide_eq_true (known_name hN h), ?_⟩, ?_⟩
 ·
  cases hb : y.1 with
  | false => rfl
  | true =>
   have := known_term hN (ht y.2.1 (by simp [termsS, hb]))
   simp [this]
 ·
  rw [List.all_eq_true]
  intro t h1
  exact decide_eq_true (known_term hN (ht t (by simp [termsS, h1])))
theorem gs_rule {sz : Nat} {r : Rl} {s s' : PS} (h : Gs s) (hf : ruleE sz s = .ok (r, s')) :
  Gs s' ∧ (∃ X, s'.2.1 = s.2.1 ++ X) ∧ mayR r = true ∧ comeR r = true ∧ knownR s'.2.1 r = true ∧ ∃ v, (∀ t ∈ termsR r, Tin s'.2.1 v t) ∧ Nin s'.2.1 r.1.2.2.1.toNat ∧ ∀ c ∈ r.2, Nin s'.2.1 c.2.2.2.1.toNat := by
 unfold ruleE at hf
 obtain ⟨y, s1, h1, h2⟩ := bindE_ok hf
 obtain ⟨b, s2, h3, h4⟩ := bindE_ok h2
 obtain ⟨x, s3, h5, h6⟩ := bindE_ok h4
 simp only [Except.ok.injEq, Prod.mk.injEq] at h6
 obtain ⟨rfl, rfl⟩ := h6
 obtain ⟨a1, a2, a3⟩ := gs_say (s := (s.1, s.2.1, [])) ⟨h.ws, h.good, List.nodup_nil, by simp⟩ h1
 obtain ⟨b1, b2, b3⟩ := gs_body a1.gs h3
 have c1 := gs_word b1.gs h5
 have hall : Gd (s.1, s.2.1, []) s3 (termsR (y, b)) := by simpa [termsR] using (a1.trans b1).trans c1
 have hN := hall.gs.good
 have hn1 : Nin s3.2.1 y.2.2.1.toNat := (b1.trans c1).nin a2
 have hn2 : ∀ c ∈ b, Nin s3.2.1 c.2.2.2.1.toNat := fun c hc => c1.nin (b3 c hc).1
 refine ⟨hall.gs, hall.names, ?_, ?_, ?_, _, hall.known, hn1, hn2⟩
 ·
  unfold mayR
  rw [Bool.and_eq_true, Bool.and_eq_true]
  refine ⟨⟨?_, a3⟩, decide_eq_true b2⟩
  rw [List.all_eq_true]
  exact fun c hc => (b3 c hc).2
 ·
  unfold comeR
  have := hall.come
  rw [show ([] : List ByteArray).length = 0 from rfl] at this
  rw [this]
  rfl
 ·
  unfold knownR
  rw [Bool.and_eq_true]
  refine ⟨known_say hN hn1 fun t ht => hall.known t (by simp [termsR, ht]), ?_⟩
  rw [List.all_eq_true]
  intro c hc
  exact known_say hN (hn2 c hc) fun t ht => hall.known t (by
   simp only [termsR, List.mem_append, List.mem_flatMap]
   exact .inr ⟨c, hc, ht⟩)
/-- What a parsed rule is, by the names behind it. -/
def Fine (N : List ByteArray) (r : Rl) : Prop := mayR r = true ∧ comeR r = true ∧ ∃ v, (∀ t ∈ termsR r, Tin N v t) ∧ Nin N r.1.2.2.1.toNat ∧ ∀ c ∈ r.2, Nin N c.2.2.2.1.toNat
theorem Fine.app {N X : List ByteArray} {r : Rl} (h : Fine N r) : Fine (N ++ X) r := by
 obtain ⟨h1, h2, v, h3, h4, h5⟩ := h
 exact ⟨h1, h2, v, fun t ht => (h3 t ht).app (Nat.le_refl _), h4.app, fun c hc => (h5 c hc).app⟩
theorem Fine.known {N : List ByteArray} {r : Rl} (h : Fine N r) (hN : Good 4096 N) : knownR N r = true := by
 obtain ⟨_, _, v, h3, h4, h5⟩ := h
 unfold knownR
 rw [Bool.and_eq_true]
 refine ⟨known_say hN h4 fun t ht => h3 t (by simp [termsR, ht]), ?_⟩
 rw [List.all_eq_true]
 intro c hc
 exact known_say hN (h5 c hc) fun t ht => h3 t (by
  simp only [termsR, List.mem_append, List.mem_flatMap]
  exact .inr ⟨c, hc, ht⟩)
theorem gs_rules {sz : Nat} : ∀ (n : Nat) (acc : List Rl) {l : List Rl} {s s' : PS}, Gs s → rulesE sz n acc s = .ok (l, s') →
  Gs s' ∧ (∃ X, s'.2.1 = s.2.1 ++ X) ∧ ∃ m, l = acc ++ m ∧ m.length ≤ n ∧ ∀ r ∈ m, Fine s'.2.1 r
 | 0, acc, l, s, s', h, hf => by
  rw [rulesE] at hf
  simp only [Except.ok.injEq, Prod.mk.injEq] at hf
  obtain ⟨rfl, rfl⟩ := hf
  exact ⟨h, ⟨[], by simp⟩, [], by simp, by simp, by simp⟩
 | n + 1, acc, l, s, s', h, hf => by
  rw [rulesE] at hf
  split at hf
  ·
   simp only [Except.ok.injEq, Prod.mk.injEq] at hf
   obtain ⟨rfl, rfl⟩ := hf
   exact ⟨h, ⟨[], by simp⟩, [], by simp, by simp, by simp⟩
  ·
   obtain ⟨r, s1, h1, h2⟩ := bindE_ok hf
   obtain ⟨a1, ⟨X, a2⟩, a3, a4, a5, a6⟩ := gs_rule h h1
   obtain ⟨b1, ⟨Y, b2⟩, m, rfl, b3, b4⟩ := gs_rules n _ a1 h2
   refine ⟨b1, ⟨X ++ Y, by rw [b2, a2, List.append_assoc]⟩, r :: m, by simp, by simp; omega, ?_⟩
   intro x hx
   rcases List.mem_cons.1 hx with rfl | hx
   ·
    rw [b2]
    exact Fine.app ⟨a3, a4, a6⟩
   ·
    exact b4 x hx
/-- All that is known of what is parsed. -/
theorem parseL_fine {N : List ByteArray} {text : List UInt8} (hN : Good 4096 N) {rs : List Rl} {ns : List ByteArray} {y z : Nat} (h : (rs, ns, y, z) = parseL N text) :
  Good 4096 ns ∧ (∃ X, ns = N ++ X) ∧ (∀ r ∈ rs, Fine ns r) ∧ (z ≠ 0 → rs = [] ∧ ns = N) := by
 unfold parseL at h
 cases hw : wordsL text with
 | mk ws yz =>
  obtain ⟨y0, z0⟩ := yz
  rw [hw] at h
  dsimp only at h
  by_cases hz : z0 ≠ 0
  ·
   rw [if_pos hz] at h
   simp only [Prod.mk.injEq] at h
   obtain ⟨rfl, rfl, rfl, rfl⟩ := h
   exact ⟨hN, ⟨[], by simp⟩, by simp, fun _ => ⟨rfl, rfl⟩⟩
  ·
   rw [if_neg hz] at h
   have hws : Ws ws := by
    unfold wordsL at hw
    split at hw
    ·
     simp only [Prod.mk.injEq] at hw
     obtain ⟨rfl, rfl, rfl⟩ := hw
     intro w hw; cases hw
    ·
     have ha := lexG_alone 0 text
     split at hw
     ·
      rename_i he
      simp only [Prod.mk.injEq] at hw
      obtain ⟨rfl, rfl, rfl⟩ := hw
      rw [he] at ha
      exact ws_alone ha
     ·
      simp only [Prod.mk.injEq] at hw
      obtain ⟨rfl, rfl, rfl⟩ := hw
      intro w hw; cases hw
   have hgs : Gs (ws, N, []) := ⟨hws, hN, List.nodup_nil, by simp⟩
   split at h
   ·
    rename_i rs' s' he
    simp only [Prod.mk.injEq] at h
    obtain ⟨rfl, rfl, rfl, rfl⟩ := h
    obtain ⟨a1, a2, m, hm, a3, a4⟩ := gs_rules _ [] hgs he
    rw [List.nil_append] at hm
    subst hm
    exact ⟨a1.good, a2, a4, fun h => absurd rfl h⟩
   ·
    simp only [Prod.mk.injEq] at h
    obtain ⟨rfl, rfl, rfl, rfl⟩ := h
    exact ⟨hN, ⟨[], by simp⟩, by simp, fun _ => ⟨rfl, rfl⟩⟩
end Go.Proofs.YtoigpbajefkpoaaGreatDoor

set_option linter.unusedVariables false
set_option maxRecDepth 100000
namespace Go.Proofs.YtoigpbajefkpoaaGreatDoor
open Go Go.RowKit

theorem laidOut : laidOutB Tryz.prog = true := by kernel_rfl
theorem ownK : ownKnob Tryz.prog.godebug = none := by kernel_rfl
end Go.Proofs.YtoigpbajefkpoaaGreatDoor

set_option linter.unusedVariables false
set_option maxRecDepth 100000
namespace Go.Proofs.YtoigpbajefkpoaaGreatDoor
open Go Go.RowKit

theorem cellsStr : Tryz.prog.cellsOf 9 = 1 := by kernel_rfl
open Go.ChangeShapes Go.WideShapes in
/-- A []string among the arguments. -/
theorem open_names {H : Type} {enc : TypeId × Value → H} {W : World} {v : Value} {d : DataW H} {p : List MemPlace} (hv : Value.okWide Tryz.prog W .any 0 22 v) (h : DataW.Trod enc Tryz.prog W 0 (fun _ => true) true 22 v d p)
  (hlt : ∀ x ∈ p, x.block < W.heap.size) :
  ∃ (A : Option Addr) (n c : Nat) (l : List ByteArray), v = .slice A n c ∧ n ≤ c ∧ n ≤ maxLen ∧ Rd W W.heap.size 1 A n (l.map sv) ∧ ∀ s ∈ l, s.size ≤ maxLen := by
 obtain ⟨a0, len, cap, rfl⟩ := okWide_slice Tryz.underlying22 hv
 obtain ⟨fuel, hf⟩ := h
 rcases open_strings Tryz.underlying22 Tryz.underlying9 cellsStr hf with ⟨hcs, hx⟩ | ⟨a, len', cap', ss, hcs, _, hl, hm, hz, hx, hcell, hwz⟩
 ·
  simp [Value.cells] at hcs
  obtain ⟨rfl, rfl, rfl⟩ := hcs
  exact ⟨none, 0, 0, [], rfl, Nat.le_refl _, Nat.zero_le _, Rd.nil, by simp⟩
 ·
  simp [Value.cells] at hcs
  obtain ⟨rfl, rfl, rfl⟩ := hcs
  simp only [Prod.mk.injEq] at hx
  obtain ⟨rfl, rfl⟩ := hx
  simp only [if_true] at hz
  refine ⟨some a, len, cap, ss.take len, rfl, hl, by omega, ⟨by simp; omega, fun hn => ?_⟩, fun s hs => hwz s (List.mem_of_mem_take hs)⟩
  obtain ⟨b, off, spot⟩ := a
  have hspot : spot = none := by simpa [Addr.add] using World.cell?_spot (hcell 0 (by omega))
  subst hspot
  refine ⟨b, off, rfl, hlt (.cell b off) (MemPlace.mem_row.2 ⟨0, by omega, by simp⟩), fun j u hu => ?_⟩
  have hj : j < len := by
   have := (List.getElem?_eq_some_iff.1 hu).1
   simp at this
   omega
  have hjz : j < ss.length := by omega
  have hc := hcell j hjz
  rw [addPlain] at hc
  rw [hc]
  simp only [List.getElem?_map, List.getElem?_take, hj, if_true, List.getElem?_eq_getElem hjz, Option.map_some, Option.some.injEq] at hu
  rw [← hu]
  simp [sv, List.getD, List.getElem?_eq_getElem hjz]
end Go.Proofs.YtoigpbajefkpoaaGreatDoor

set_option linter.unusedVariables false
set_option linter.unusedSimpArgs false
namespace Go.Proofs.YtoigpbajefkpoaaGreatDoor
open Go Go.RowKit

theorem fine_small {N : List ByteArray} {rs : List Rl} (h : ∀ r ∈ rs, Fine N r) : smallR rs := by
 intro r hr
 have hm := (h r hr).1
 unfold mayR at hm
 rw [Bool.and_eq_true, Bool.and_eq_true] at hm
 obtain ⟨⟨h1, h2⟩, h3⟩ := hm
 have h4 := of_decide_eq_true h3
 have key : ∀ y : Sy, mayS y = true → y.2.2.2.length ≤ 1000 := by
  intro y hy
  unfold mayS mayA at hy
  simp only [Bool.and_eq_true, decide_eq_true_eq] at hy
  omega
 refine ⟨key _ h2, by omega, fun x hx => ?_⟩
 rw [List.all_eq_true] at h1
 exact key _ (h1 x hx)
end Go.Proofs.YtoigpbajefkpoaaGreatDoor
namespace Go.Proofs.YtoigpbajefkpoaaGreatDoor.parseText
open Go Go.RowKit

end Go.Proofs.YtoigpbajefkpoaaGreatDoor.parseText

set_option linter.unusedVariables false
set_option linter.unusedSimpArgs false
namespace Go.Proofs.YtoigpbajefkpoaaGreatDoor
open Go Go.RowKit Go.ChangeShapes Go.WideShapes Go.Joins Go.Deep
set_option maxRecDepth 100000

theorem list_of {α : Type} {p : Nat → α → Prop} : ∀ (n : Nat), (∀ i, i < n → ∃ x, p i x) → ∃ l : List α, l.length = n ∧ ∀ (i : Nat) (x : α), l[i]? = some x → p i x
 | 0, _ => ⟨[], rfl, fun i x h => by simp at h⟩
 | n + 1, h => by
  obtain ⟨l, hl, hp⟩ := list_of n (fun i hi => h i (by omega))
  obtain ⟨x, hx⟩ := h n (by omega)
  refine ⟨l ++ [x], by simp [hl], fun i y hy => ?_⟩
  by_cases hi : i < n
  ·
   rw [List.getElem?_append_left (by omega)] at hy
   exact hp i y hy
  ·
   have hlt := (List.getElem?_eq_some_iff.1 hy).1
   simp only [List.length_append, List.length_singleton] at hlt
   obtain rfl : i = n := by omega
   rw [List.getElem?_append_right (by omega), hl, Nat.sub_self] at hy
   simp only [List.getElem?_cons_zero, Option.some.injEq] at hy
   subst hy
   exact hx
theorem cellsTerm : Tryz.prog.cellsOf 46 = 2 := by kernel_rfl
theorem u32_of {n : Int} (hw : (Lit.int .u32 n).wf = true) : ∃ x : UInt32, Value.int .u32 n = nv x := by
 have h1 : IntKind.u32.min = 0 := rfl
 have h2 : IntKind.u32.max = 4294967295 := rfl
 simp only [Lit.wf, Bool.and_eq_true, decide_eq_true_eq] at hw
 refine ⟨UInt32.ofNat n.toNat, ?_⟩
 unfold nv
 rw [UInt32.toNat_ofNat_of_lt' (by show n.toNat < 4294967296; omega)]
 congr 1
 omega
section
variable {H : Type} {enc : TypeId × Value → H} {W : World}
theorem in_u32 {fuel : Nat} {v : Value} {y : DataW H × List MemPlace} (h : DataW.trod enc Tryz.prog W 0 (fun _ => true) true fuel 44 [v] = some y) : ∃ x : UInt32, v = nv x := by
 obtain ⟨n, hv, hx, hw⟩ := DataW.trod_int Tryz.underlying44 h
 obtain ⟨x, hx⟩ := u32_of hw
 simp only [List.cons.injEq, and_true] at hv
 exact ⟨x, by rw [hv, hx]⟩
theorem in_ts {fuel : Nat} {v : Value} {y : DataW H × List MemPlace} (h : DataW.trod enc Tryz.prog W 0 (fun _ => true) true fuel 47 [v] = some y) (hlt : ∀ x ∈ y.2, x.block < W.heap.size) :
  ∃ (A : Option Addr) (n c : Nat) (l : List Tm), v = .slice A n c ∧ n ≤ c ∧ c ≤ maxLen ∧ RdT W W.heap.size A n l := by
 rcases open_slice_pairs Tryz.underlying47 Tryz.underlying46 cellsTerm rfl rfl (by kernel_rfl) (by kernel_rfl) h with ⟨hcs, hx⟩ | ⟨a, len, cap, m, k, V0, V1, D0, D1, P0, P1, hcs, _, hl, hm, hz, hx, hi⟩
 ·
  simp only [List.cons.injEq, and_true] at hcs
  exact ⟨none, 0, 0, [], hcs, by omega, by omega, Rd.nil⟩
 ·
  simp only [List.cons.injEq, and_true] at hcs
  subst hx
  simp only [if_true] at hz
  obtain ⟨l, hll, hp⟩ := list_of (p := fun i (t : Tm) => W.cell? (a.add (i * 2)) = some (.bool t.1) ∧ W.cell? (a.add (i * 2 + 1)) = some (nv t.2)) len (fun i hi' => by
   obtain ⟨h1, h2, h3, h4⟩ := hi i (by omega)
   obtain ⟨b, hb, _⟩ := DataW.trod_bool Tryz.underlying4 h3
   obtain ⟨x, hx⟩ := in_u32 h4
   simp only [List.cons.injEq, and_true] at hb
   exact ⟨(b, x), by rw [h1, hb], by rw [h2, hx]⟩)
  refine ⟨some a, len, cap, l, hcs, hl, hm, by rw [tmCs_len, hll], fun hn => ?_⟩
  obtain ⟨b, off, spot⟩ := a
  have hspot : spot = none := by
   obtain ⟨h1, _⟩ := hi 0 (by omega)
   simpa [Addr.add] using World.cell?_spot h1
  subst hspot
  refine ⟨b, off, rfl, hlt (.cell b off) (List.mem_append_left _ (MemPlace.mem_row.2 ⟨0, by omega, by simp⟩)), fun j u hu => ?_⟩
  have hj : j < len * 2 := by
   have := (List.getElem?_eq_some_iff.1 hu).1
   rw [tmCs_len, hll] at this
   exact this
  have ht : l[j / 2]? = some (l[j / 2]'(by omega)) := List.getElem?_eq_getElem _
  have h2 := tmCs_at ht
  have h3 := hp _ _ ht
  rw [addPlain, addPlain] at h3
  rcases Nat.mod_two_eq_zero_or_one j with e | e
  ·
   have e1 : j / 2 * 2 = j := by omega
   rw [e1] at h2 h3
   rw [h2.1] at hu
   cases hu
   exact h3.1
  ·
   have e1 : j / 2 * 2 + 1 = j := by omega
   rw [e1] at h2 h3
   rw [h2.2] at hu
   cases hu
   exact h3.2
/-- An atom's two cells. -/
theorem in_atom {fuel : Nat} {v0 v1 : Value} {y : DataW H × List MemPlace} (h : DataW.trod enc Tryz.prog W 0 (fun _ => true) true fuel 49 [v0, v1] = some y) (hlt : ∀ x ∈ y.2, x.block < W.heap.size) :
  ∃ (q : UInt32) (A : Option Addr) (n c : Nat) (l : List Tm), v0 = nv q ∧ v1 = .slice A n c ∧ n ≤ c ∧ c ≤ maxLen ∧ RdT W W.heap.size A n l := by
 obtain ⟨y0, y1, k, rfl, hl, h0, h1⟩ := trod_struct2 Tryz.underlying49 h
 obtain ⟨q, hq⟩ := in_u32 (v := v0) h0
 obtain ⟨A, n, c, l, hv, hn, hc, hr⟩ := in_ts (v := v1) h1 (fun x hx => hlt x (by simp [hx]))
 exact ⟨q, A, n, c, l, hq, hv, hn, hc, hr⟩
/-- A term's two cells. -/
theorem in_term {fuel : Nat} {v0 v1 : Value} {y : DataW H × List MemPlace} (h : DataW.trod enc Tryz.prog W 0 (fun _ => true) true fuel 46 [v0, v1] = some y) : ∃ t : Tm, v0 = .bool t.1 ∧ v1 = nv t.2 := by
 obtain ⟨y0, y1, k, rfl, hl, h0, h1⟩ := trod_struct2 Tryz.underlying46 h
 obtain ⟨b, hb, _⟩ := DataW.trod_bool (cs := [v0]) Tryz.underlying4 h0
 obtain ⟨q, hq⟩ := in_u32 (v := v1) h1
 simp only [List.cons.injEq, and_true] at hb
 exact ⟨(b, q), hb, hq⟩
/-- A say's five cells. -/
theorem in_say {fuel : Nat} {v0 v1 v2 v3 v4 : Value} {y : DataW H × List MemPlace} (h : DataW.trod enc Tryz.prog W 0 (fun _ => true) true fuel 51 [v0, v1, v2, v3, v4] = some y) (hlt : ∀ x ∈ y.2, x.block < W.heap.size) :
  ∃ (s : Bool) (t : Tm) (q : UInt32) (A : Option Addr) (n c : Nat) (l : List Tm), v0 = .bool s ∧ v1 = .bool t.1 ∧ v2 = nv t.2 ∧ v3 = nv q ∧ v4 = .slice A n c ∧ n ≤ c ∧ c ≤ maxLen ∧ RdT W W.heap.size A n l := by
 obtain ⟨y0, y1, y2, k, rfl, hl, h0, h1, h2⟩ := trod_struct3 Tryz.underlying51 h
 obtain ⟨b, hb, _⟩ := DataW.trod_bool (cs := [v0]) Tryz.underlying4 h0
 obtain ⟨t, ht0, ht1⟩ := in_term (v0 := v1) (v1 := v2) h1
 obtain ⟨q, A, n, c, l, hq, hv, hn, hc, hr⟩ := in_atom (v0 := v3) (v1 := v4) h2 (fun x hx => hlt x (by simp [hx]))
 simp only [List.cons.injEq, and_true] at hb
 exact ⟨b, t, q, A, n, c, l, hb, ht0, ht1, hq, hv, hn, hc, hr⟩
theorem cellsCond : Tryz.prog.cellsOf 103 = 6 := by kernel_rfl
/-- A slice of a rule's conditions. -/
theorem in_ks {fuel : Nat} {v : Value} {y : DataW H × List MemPlace} (h : DataW.trod enc Tryz.prog W 0 (fun _ => true) true fuel 52 [v] = some y) (hlt : ∀ x ∈ y.2, x.block < W.heap.size) :
  ∃ (A : Option Addr) (n c : Nat) (R : List SlA) (L : List Co), v = .slice A n c ∧ n ≤ c ∧ c ≤ maxLen ∧ RdK W W.heap.size A n R L := by
 rcases open_slice Tryz.underlying52 h with ⟨hcs, hx⟩ | ⟨a, len, cap, m, k, D, Pl, hcs, _, hl, hm, hz, hx, hi⟩
 ·
  simp only [List.cons.injEq, and_true] at hcs
  exact ⟨none, 0, 0, [], [], hcs, by omega, by omega, ⟨rfl, rfl, Rd.nil, fun i r x h => by simp at h⟩⟩
 ·
  simp only [List.cons.injEq, and_true] at hcs
  subst hx
  simp only [if_true] at hz
  rw [cellsCond] at hi hlt
  obtain ⟨l, hll, hp⟩ := list_of (p := fun i (z : Co × SlA) => (W.cell? (a.add (i * 6)) = some (.bool z.1.1) ∧ W.cell? (a.add (i * 6 + 1)) = some (.bool z.1.2.1) ∧ W.cell? (a.add (i * 6 + 2)) = some (.bool z.1.2.2.1.1) ∧ W.cell? (a.add (i * 6 + 3)) = some (nv z.1.2.2.1.2) ∧ W.cell? (a.add (i * 6 + 4)) = some (nv z.1.2.2.2.1) ∧ W.cell? (a.add (i * 6 + 5)) = some z.2.val) ∧ RdT W W.heap.size z.2.1 z.2.2.1 z.1.2.2.2.2) len (fun i hi' => by
   obtain ⟨cs, hcc, htr⟩ := hi i (by omega)
   obtain ⟨_, hcl, hat⟩ := World.cells?_some hcc
   match cs, hcl with
   | [c0, c1, c2, c3, c4, c5], _ =>
    obtain ⟨y0, y1, k2, hxy, _, h0, h1⟩ := trod_struct2 Tryz.underlying103 htr
    simp only [Prod.mk.injEq] at hxy
    obtain ⟨b, hb, _⟩ := DataW.trod_bool (cs := [c0]) Tryz.underlying4 h0
    obtain ⟨s, t, q, A, n, c, l, hs, ht0, ht1, hq, hv, _, _, hr⟩ := in_say (v0 := c1) (v1 := c2) (v2 := c3) (v3 := c4) (v4 := c5) h1 (fun x hx => hlt x (List.mem_append_right _ (List.mem_flatMap.2 ⟨i, by simp; omega, by rw [hxy.2]; simp [hx]⟩)))
    simp only [List.cons.injEq, and_true] at hb
    have g0 := hat 0 (by omega)
    have g1 := hat 1 (by omega)
    have g2 := hat 2 (by omega)
    have g3 := hat 3 (by omega)
    have g4 := hat 4 (by omega)
    have g5 := hat 5 (by omega)
    rw [addAdd] at g0 g1 g2 g3 g4 g5
    subst hb hs ht0 ht1 hq hv
    exact ⟨((b, s, t, q, l), (A, n, c)), ⟨g0, g1, g2, g3, g4, g5⟩, hr⟩)
  have hR : (l.map (·.2)).length = len := by simp [hll]
  have hL : (l.map (·.1)).length = len := by simp [hll]
  have hzip : (l.map (·.1)).zip (l.map (·.2)) = l := by
   refine List.ext_getElem (by simp) fun i h1 h2 => ?_
   simp
  refine ⟨some a, len, cap, l.map (·.2), l.map (·.1), hcs, hl, hm, hR, hL, ?_, ?_⟩
  ·
   rw [hzip]
   have h3 : ∀ z : Co × SlA, (coC z).length = 6 := fun _ => rfl
   have hlen : (l.flatMap coC).length = len * 6 := by
    have key : ∀ l : List (Co × SlA), (l.flatMap coC).length = l.length * 6 := by
     intro l
     induction l with
     | nil => rfl
     | cons z l ih => rw [List.flatMap_cons, List.length_append, ih, h3, List.length_cons]; omega
    rw [key, hll]
   refine ⟨hlen, fun hn => ?_⟩
   obtain ⟨b, off, spot⟩ := a
   have hspot : spot = none := by
    have ht : l[0]? = some (l[0]'(by omega)) := List.getElem?_eq_getElem _
    simpa [Addr.add] using World.cell?_spot (hp _ _ ht).1.1
   subst hspot
   refine ⟨b, off, rfl, hlt (.cell b off) (List.mem_append_left _ (MemPlace.mem_row.2 ⟨0, by omega, by simp⟩)), fun j u hu => ?_⟩
   have hj : j < len * 6 := by
    have := (List.getElem?_eq_some_iff.1 hu).1
    rw [hlen] at this
    exact this
   have ht : l[j / 6]? = some (l[j / 6]'(by omega)) := List.getElem?_eq_getElem _
   have h2 := flat_at coC 6 h3 ht (j % 6) (Nat.mod_lt _ (by omega))
   have e1 : j / 6 * 6 + j % 6 = j := by omega
   rw [e1, hu] at h2
   have h4 := (hp _ _ ht).1
   rw [addPlain, addPlain, addPlain, addPlain, addPlain, addPlain] at h4
   have hc : j % 6 = 0 ∨ j % 6 = 1 ∨ j % 6 = 2 ∨ j % 6 = 3 ∨ j % 6 = 4 ∨ j % 6 = 5 := by omega
   rcases hc with e | e | e | e | e | e
   ·
    rw [e] at h2
    cases h2
    rw [show off + j = off + j / 6 * 6 by omega]
    exact h4.1
   ·
    rw [e] at h2
    cases h2
    rw [show off + j = off + (j / 6 * 6 + 1) by omega]
    exact h4.2.1
   ·
    rw [e] at h2
    cases h2
    rw [show off + j = off + (j / 6 * 6 + 2) by omega]
    exact h4.2.2.1
   ·
    rw [e] at h2
    cases h2
    rw [show off + j = off + (j / 6 * 6 + 3) by omega]
    exact h4.2.2.2.1
   ·
    rw [e] at h2
    cases h2
    rw [show off + j = off + (j / 6 * 6 + 4) by omega]
    exact h4.2.2.2.2.1
   ·
    rw [e] at h2
    cases h2
    rw [show off + j = off + (j / 6 * 6 + 5) by omega]
    exact h4.2.2.2.2.2
  ·
   intro i r x h1 h2
   rw [List.getElem?_map] at h1 h2
   obtain ⟨z, hz1, rfl⟩ := Option.map_eq_some_iff.1 h1
   rw [hz1] at h2
   cases h2
   exact (hp i z hz1).2
theorem cellsRule : Tryz.prog.cellsOf 54 = 6 := by kernel_rfl
/-- A slice of rules. -/
theorem in_rs {fuel : Nat} {v : Value} {y : DataW H × List MemPlace} (h : DataW.trod enc Tryz.prog W 0 (fun _ => true) true fuel 27 [v] = some y) (hlt : ∀ x ∈ y.2, x.block < W.heap.size) :
  ∃ (A : Option Addr) (n c : Nat) (Q : List RlA) (L : List Rl), v = .slice A n c ∧ n ≤ c ∧ c ≤ maxLen ∧ RdRs W W.heap.size A n Q L := by
 rcases open_slice Tryz.underlying27 h with ⟨hcs, hx⟩ | ⟨a, len, cap, m, k, D, Pl, hcs, _, hl, hm, hz, hx, hi⟩
 ·
  simp only [List.cons.injEq, and_true] at hcs
  exact ⟨none, 0, 0, [], [], hcs, by omega, by omega, ⟨rfl, rfl, Rd.nil, fun i r x h => by simp at h⟩⟩
 ·
  simp only [List.cons.injEq, and_true] at hcs
  subst hx
  simp only [if_true] at hz
  rw [cellsRule] at hi hlt
  obtain ⟨l, hll, hp⟩ := list_of (p := fun i (z : Rl × RlA) => (W.cell? (a.add (i * 6)) = some (.bool z.1.1.1) ∧ W.cell? (a.add (i * 6 + 1)) = some (.bool z.1.1.2.1.1) ∧ W.cell? (a.add (i * 6 + 2)) = some (nv z.1.1.2.1.2) ∧ W.cell? (a.add (i * 6 + 3)) = some (nv z.1.1.2.2.1) ∧ W.cell? (a.add (i * 6 + 4)) = some z.2.1.val ∧ W.cell? (a.add (i * 6 + 5)) = some z.2.2.1.val) ∧ RdT W W.heap.size z.2.1.1 z.2.1.2.1 z.1.1.2.2.2 ∧ RdK W W.heap.size z.2.2.1.1 z.2.2.1.2.1 z.2.2.2 z.1.2) len (fun i hi' => by
   obtain ⟨cs, hcc, htr⟩ := hi i (by omega)
   obtain ⟨_, hcl, hat⟩ := World.cells?_some hcc
   match cs, hcl with
   | [c0, c1, c2, c3, c4, c5], _ =>
    obtain ⟨y0, y1, k2, hxy, _, h0, h1⟩ := trod_struct2 Tryz.underlying54 htr
    simp only [Prod.mk.injEq] at hxy
    obtain ⟨s, t, q, A, n, c, l, hs, ht0, ht1, hq, hv, _, _, hr⟩ := in_say (v0 := c0) (v1 := c1) (v2 := c2) (v3 := c3) (v4 := c4) h0 (fun x hx => hlt x (List.mem_append_right _ (List.mem_flatMap.2 ⟨i, by simp; omega, by rw [hxy.2]; simp [hx]⟩)))
    obtain ⟨A1, n1, cc1, R, L, hv2, _, _, hr1⟩ := in_ks (v := c5) h1 (fun x hx => hlt x (List.mem_append_right _ (List.mem_flatMap.2 ⟨i, by simp; omega, by rw [hxy.2]; simp [hx]⟩)))
    have g0 := hat 0 (by omega)
    have g1 := hat 1 (by omega)
    have g2 := hat 2 (by omega)
    have g3 := hat 3 (by omega)
    have g4 := hat 4 (by omega)
    have g5 := hat 5 (by omega)
    rw [addAdd] at g0 g1 g2 g3 g4 g5
    subst hs ht0 ht1 hq hv hv2
    exact ⟨(((s, t, (q, l)), L), ((A, n, c), ((A1, n1, cc1), R))), ⟨g0, g1, g2, g3, g4, g5⟩, hr, hr1⟩)
  have hR : (l.map (·.2)).length = len := by simp [hll]
  have hL : (l.map (·.1)).length = len := by simp [hll]
  have hzip : (l.map (·.1)).zip (l.map (·.2)) = l := by
   refine List.ext_getElem (by simp) fun i h1 h2 => ?_
   simp
  refine ⟨some a, len, cap, l.map (·.2), l.map (·.1), hcs, hl, hm, hR, hL, ?_, ?_⟩
  ·
   rw [hzip]
   have h3 : ∀ z : Rl × RlA, (ruC z).length = 6 := fun _ => rfl
   have hlen : (l.flatMap ruC).length = len * 6 := by
    have key : ∀ l : List (Rl × RlA), (l.flatMap ruC).length = l.length * 6 := by
     intro l
     induction l with
     | nil => rfl
     | cons z l ih => rw [List.flatMap_cons, List.length_append, ih, h3, List.length_cons]; omega
    rw [key, hll]
   refine ⟨hlen, fun hn => ?_⟩
   obtain ⟨b, off, spot⟩ := a
   have hspot : spot = none := by
    have ht : l[0]? = some (l[0]'(by omega)) := List.getElem?_eq_getElem _
    simpa [Addr.add] using World.cell?_spot (hp _ _ ht).1.1
   subst hspot
   refine ⟨b, off, rfl, hlt (.cell b off) (List.mem_append_left _ (MemPlace.mem_row.2 ⟨0, by omega, by simp⟩)), fun j u hu => ?_⟩
   have hj : j < len * 6 := by
    have := (List.getElem?_eq_some_iff.1 hu).1
    rw [hlen] at this
    exact this
   have ht : l[j / 6]? = some (l[j / 6]'(by omega)) := List.getElem?_eq_getElem _
   have h2 := flat_at ruC 6 h3 ht (j % 6) (Nat.mod_lt _ (by omega))
   have e1 : j / 6 * 6 + j % 6 = j := by omega
   rw [e1, hu] at h2
   have h4 := (hp _ _ ht).1
   rw [addPlain, addPlain, addPlain, addPlain, addPlain, addPlain] at h4
   have hc : j % 6 = 0 ∨ j % 6 = 1 ∨ j % 6 = 2 ∨ j % 6 = 3 ∨ j % 6 = 4 ∨ j % 6 = 5 := by omega
   rcases hc with e | e | e | e | e | e
   ·
    rw [e] at h2
    cases h2
    rw [show off + j = off + j / 6 * 6 by omega]
    exact h4.1
   ·
    rw [e] at h2
    cases h2
    rw [show off + j = off + (j / 6 * 6 + 1) by omega]
    exact h4.2.1
   ·
    rw [e] at h2
    cases h2
    rw [show off + j = off + (j / 6 * 6 + 2) by omega]
    exact h4.2.2.1
   ·
    rw [e] at h2
    cases h2
    rw [show off + j = off + (j / 6 * 6 + 3) by omega]
    exact h4.2.2.2.1
   ·
    rw [e] at h2
    cases h2
    rw [show off + j = off + (j / 6 * 6 + 4) by omega]
    exact h4.2.2.2.2.1
   ·
    rw [e] at h2
    cases h2
    rw [show off + j = off + (j / 6 * 6 + 5) by omega]
    exact h4.2.2.2.2.2
  ·
   intro i r x h1 h2
   rw [List.getElem?_map] at h1 h2
   obtain ⟨z, hz1, rfl⟩ := Option.map_eq_some_iff.1 h1
   rw [hz1] at h2
   cases h2
   exact (hp i z hz1).2
/-- Rules among the arguments. -/
theorem open_rules {v : Value} {d : DataW H} {p : List MemPlace} (hv : Value.okWide Tryz.prog W .any 0 27 v) (h : DataW.Trod enc Tryz.prog W 0 (fun _ => true) true 27 v d p) (hlt : ∀ x ∈ p, x.block < W.heap.size) :
  ∃ (A : Option Addr) (n c : Nat) (Q : List RlA) (L : List Rl), v = .slice A n c ∧ n ≤ c ∧ c ≤ maxLen ∧ RdRs W W.heap.size A n Q L := by
 obtain ⟨a0, len, cap, rfl⟩ := okWide_slice Tryz.underlying27 hv
 obtain ⟨fuel, hf⟩ := h
 exact in_rs hf hlt
end
end Go.Proofs.YtoigpbajefkpoaaGreatDoor

set_option linter.unusedVariables false
set_option linter.unusedSimpArgs false
namespace Go.Proofs.YtoigpbajefkpoaaGreatDoor
open Go Go.RowKit

def fewR (rs : List Rl) : Bool := decide (rs.length ≤ 60) && rs.all fun r => !bigR r
theorem fewR_small {rs : List Rl} (h : fewR rs = true) : rs.length ≤ 60 ∧ smallR rs := by
 unfold fewR at h
 rw [Bool.and_eq_true] at h
 refine ⟨of_decide_eq_true h.1, fun r hr => ?_⟩
 have h2 := h.2
 rw [List.all_eq_true] at h2
 have h3 := h2 r hr
 unfold bigR at h3
 simp only [Bool.not_eq_true', Bool.or_eq_false_iff, decide_eq_false_iff_not, List.any_eq_false, decide_eq_true_eq] at h3
 refine ⟨by omega, by omega, fun x hx => ?_⟩
 have := h3.2 x hx
 omega
set_option maxRecDepth 100000 in
set_option maxHeartbeats 8000000 in
theorem few_any (A : Option Addr) (n c : Nat) (Q : List RlA) (rs : List Rl) (w : World) (h : RdRs w w.heap.size A n Q rs) :
  Calls Tryz.prog 16 #[.slice A n c] w fun e w' => e = .returned (.bool (fewR rs)) ∧ Below w.heap.size w w' := by
 have HL := Lib.hid h.lenL
 have H := Lib.hid h
 clear h
 by_cases hbig : 60 < n
 ·
  have hd : decide ((60 : Int) < (n : Int)) = true := by simp; omega
  have hv : fewR rs = false := by unfold fewR; rw [HL.out, decide_eq_false (by omega)]; rfl
  go_enter Tryz.func16, Tryz.ntmps16
  repeat (first | go_skip | go_guarded | go_step)
  go_ret
  exact ⟨by rw [hv]; rfl, Below.refl _ _⟩
 ·
  have hd : decide ((60 : Int) < (n : Int)) = false := by simp; omega
  have hv : fewR rs = rs.all fun r => !bigR r := by unfold fewR; rw [HL.out, decide_eq_true (by omega)]; rfl
  go_enter Tryz.func16, Tryz.ntmps16
  repeat (first | go_skip | go_guarded | go_step)
  go_loopw [3] (fun p wr => ∃ i : Nat, i ≤ n ∧ p = .int .i64 (i : Int) ∧ (rs.take i).all (fun r => !bigR r) = true ∧ Below w.heap.size w wr) (fun p _ => n - (intOf p).toNat)
  case atStart => exact ⟨0, by omega, rfl, rfl, Below.refl _ _⟩
  case round =>
   obtain ⟨i, hi, rfl, htk, hbr⟩ := hrel
   have HTK := Lib.hid htk
   have HBR := Lib.hid hbr
   have hws := hbr.size
   clear htk hbr
   by_cases hlt : i < n
   ·
    have hci : (i : Int) < (n : Int) := by omega
    obtain ⟨b, o, sd, tm, p, l, M, Ai, ni, ci, Bi, mi, di, Ri, rfl, hbb, hx, q0, q1, q2, q3, q4, q5, hta, hka⟩ := H.out.at_ hlt
    have Hx0 := (HBR.out.cell hbb).trans q0
    have Hx1 := (HBR.out.cell hbb).trans q1
    have Hx2 := (HBR.out.cell hbb).trans q2
    have Hx3 := (HBR.out.cell hbb).trans q3
    have Hx4 := (HBR.out.cell hbb).trans q4
    have Hx5 := (HBR.out.cell hbb).trans q5
    have HT := Lib.hid ((hta.below HBR.out).more hws)
    have HK := Lib.hid ((hka.below HBR.out).more hws)
    have HX := Lib.hid hx
    clear hx q0 q1 q2 q3 q4 q5 hta hka
    repeat (first | go_skip | go_guarded | go_step)
    refine (rRBig_any sd tm p Ai ni ci l Bi mi di Ri M _ HT.out HK.out).mono ?_
    rintro e w2 ⟨rfl, hb2⟩
    have HB2 := Lib.hid (HBR.out.trans (hb2.mono HBR.out.size))
    clear hb2
    obtain ⟨bg, hbg⟩ : ∃ bg, bigR ((sd, tm, (p, l)), M) = bg := ⟨_, rfl⟩
    rw [hbg]
    have HG := Lib.hid hbg
    clear hbg
    cases bg with
    | true =>
     have hv2 : (rs.all fun r => !bigR r) = false := by
      rw [List.all_eq_false]
      exact ⟨_, List.mem_of_getElem? HX.out, by rw [HG.out]; decide⟩
     have HV := Lib.hid (hv.trans hv2)
     clear hv hv2
     dsimp only
     repeat (first | go_skip | go_guarded | go_step)
     go_ret
     exact ⟨by rw [HV.out]; rfl, HB2.out⟩
    | false =>
     dsimp only
     repeat (first | go_skip | go_guarded | go_step)
     refine ⟨⟨i + 1, by omega, by push_cast; rfl, ?_, HB2.out⟩, ?_⟩
     ·
      rw [List.take_add_one, HX.out, List.all_append, HTK.out]
      simp [HG.out]
     ·
      simp [intOf]; omega
   ·
    obtain rfl : i = n := by omega
    have hci : ¬ (i : Int) < (i : Int) := by omega
    have hall : (rs.all fun r => !bigR r) = true := by
     have := HTK.out
     rw [List.take_of_length_le (by rw [HL.out]; omega)] at this
     exact this
    have HV := Lib.hid (hv.trans hall)
    clear hv hall
    repeat (first | go_skip | go_guarded | go_step)
    go_ret
    exact ⟨by rw [HV.out]; rfl, HBR.out⟩
end Go.Proofs.YtoigpbajefkpoaaGreatDoor
namespace Go.Proofs.YtoigpbajefkpoaaGreatDoor.parseNil
open Go Go.RowKit

set_option maxRecDepth 100000 in
set_option maxHeartbeats 8000000 in
theorem walk {P : World → Prop} (ok : ParsesOk P) (s : ByteArray) (A : Option Addr) (n c : Nat) (Q : List RlA) (rs : List Rl) (w : World) (hP : P w) (hr : RdRs w w.heap.size A n Q rs) (hnc : n ≤ c) :
  Calls Tryz.prog 7 #[sv s, .slice A n c] w fun e w' => e = .returned (.bool true) ∧ Below w.heap.size w w' := by
 have HPW := Lib.hid hP
 clear hP
 have HR := Lib.hid hr
 have HNC := Lib.hid hnc
 clear hr hnc
 by_cases hbig : 4096 < s.size
 ·
  have hd : decide ((4096 : Int) < (s.size : Int)) = true := by simp; omega
  go_enter Tryz.func7, Tryz.ntmps7
  repeat (first | go_skip | go_guarded | go_step)
  refine (pWorks_any ok w HPW.out).mono ?_
  rintro e w1 ⟨rfl, hb⟩
  dsimp only
  repeat (first | go_skip | go_guarded | go_step)
  go_ret
  exact ⟨rfl, hb⟩
 ·
  have hd : decide ((4096 : Int) < (s.size : Int)) = false := by simp; omega
  go_enter Tryz.func7, Tryz.ntmps7
  repeat (first | go_skip | go_guarded | go_step)
  refine (few_any A n c Q rs w HR.out).mono ?_
  rintro e w1 ⟨rfl, hb1⟩
  have HB1 := Lib.hid hb1
  clear hb1
  obtain ⟨fw, hfw⟩ : ∃ fw, fewR rs = fw := ⟨_, rfl⟩
  rw [hfw]
  have HFW := Lib.hid hfw
  clear hfw
  cases fw with
  | false =>
   dsimp only
   repeat (first | go_skip | go_guarded | go_step)
   refine (pWorks_any ok w1 (ok.later _ _ HPW.out HB1.out)).mono ?_
   rintro e w2 ⟨rfl, hb⟩
   have HB2 := Lib.hid (HB1.out.trans (hb.mono HB1.out.size))
   dsimp only
   repeat (first | go_skip | go_guarded | go_step)
   go_ret
   exact ⟨rfl, HB2.out⟩
  | true =>
   have hsm := fewR_small HFW.out
   have HSM := Lib.hid hsm.2
   have hn : n ≤ 100000 := by
    have := hsm.1
    have h2 := HR.out.lenL
    omega
   have HN := Lib.hid hn
   clear hsm hn
   dsimp only
   repeat (first | go_skip | go_guarded | go_step)
   refine (ok.nparse s w1 (by omega)).mono ?_
   rintro e w2 ⟨A2, c2, rfl, hb2⟩
   have HB2 := Lib.hid (HB1.out.trans (hb2.mono HB1.out.size))
   clear hb2
   dsimp only
   repeat (first | go_skip | go_guarded | go_step)
   refine (ok.nprint A n c Q rs w2 ((HR.out.below HB2.out).more HB2.out.size) HNC.out HN.out HSM.out).mono ?_
   rintro e w3 ⟨rfl, hb3⟩
   have HB3 := Lib.hid (HB2.out.trans (hb3.mono HB2.out.size))
   clear hb3
   dsimp only
   repeat (first | go_skip | go_guarded | go_step)
   refine (pWorks_any ok _ (ok.later _ _ HPW.out HB3.out)).mono ?_
   rintro e w4 ⟨rfl, hb4⟩
   have HB4 := Lib.hid (HB3.out.trans (hb4.mono HB3.out.size))
   clear hb4
   dsimp only
   repeat (first | go_skip | go_guarded | go_step)
   go_ret
   exact ⟨rfl, HB4.out⟩
end Go.Proofs.YtoigpbajefkpoaaGreatDoor.parseNil

