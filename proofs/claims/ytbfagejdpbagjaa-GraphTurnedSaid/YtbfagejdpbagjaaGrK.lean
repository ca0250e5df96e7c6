/- Layer 9 (graph), mathematics: parts that wait for each other are told in the document's order. -/
import Derived.Test.YtbfagejdpbagjaaGrT
set_option linter.unusedVariables false
namespace Go.Proofs.Ytbfagejdpbagjaa
open Classical

/-- All parts, each once. -/
structure IsParts (n : Nat) (E : List (Nat × Nat)) (Q : List (List Nat)) : Prop where
  cls : ∀ p ∈ Q, ∃ v, v < n ∧ p = part n E v
  cover : ∀ v, v < n → ∃ p ∈ Q, v ∈ p
  apart : Q.Pairwise fun p q => ∀ x ∈ p, x ∉ q
def ofQ (Q : List (List Nat)) (v : Nat) : Nat := Q.findIdx fun p => p.contains v
section
variable {n : Nat} {E : List (Nat × Nat)} {Q : List (List Nat)}
theorem Inv.isParts {s : Se} (h : Inv n E s) (hd : ∀ v, v < n → s.far v = dark) : IsParts n E s.parts :=
  ⟨h.parts, fun v hv => (h.pdn v).1 (hd v hv), h.apart⟩
theorem IsParts.perm {Q' : List (List Nat)} (h : IsParts n E Q) (hp : Q'.Perm Q) : IsParts n E Q' :=
  ⟨fun p hm => h.cls p (hp.subset hm), fun v hv => by
    obtain ⟨p, h1, h2⟩ := h.cover v hv
    exact ⟨p, hp.symm.subset h1, h2⟩, (hp.symm.pairwise_iff (fun {x y} k z hz hx => k z hx hz)).1 h.apart⟩
theorem IsParts.uniq (h : IsParts n E Q) {i j : Nat} {p q : List Nat} {v : Nat} (hi : Q[i]? = some p) (hj : Q[j]? = some q) (hp : v ∈ p) (hq : v ∈ q) : i = j := by
  obtain ⟨h1, rfl⟩ := List.getElem?_eq_some_iff.1 hi
  obtain ⟨h2, rfl⟩ := List.getElem?_eq_some_iff.1 hj
  have := List.pairwise_iff_getElem.1 h.apart
  rcases Nat.lt_trichotomy i j with g | g | g
  · exact absurd hq (this i j h1 h2 g v hp)
  · exact g
  · exact absurd hp (this j i h2 h1 g v hq)
theorem IsParts.of_mem (h : IsParts n E Q) {v : Nat} (hv : v < n) : ∃ p, Q[ofQ Q v]? = some p ∧ v ∈ p := by
  obtain ⟨p, h1, h2⟩ := h.cover v hv
  have hlt : ofQ Q v < Q.length := List.findIdx_lt_length_of_exists ⟨p, h1, by simpa using h2⟩
  refine ⟨Q[ofQ Q v], List.getElem?_eq_getElem hlt, ?_⟩
  have := List.findIdx_getElem (w := hlt)
  simpa [ofQ] using this
theorem IsParts.of_lt (h : IsParts n E Q) {v : Nat} (hv : v < n) : ofQ Q v < Q.length := by
  obtain ⟨p, h1, _⟩ := h.of_mem hv
  exact (List.getElem?_eq_some_iff.1 h1).1
theorem IsParts.of_eq (h : IsParts n E Q) {i v : Nat} {p : List Nat} (hi : Q[i]? = some p) (hv : v ∈ p) : v < n ∧ ofQ Q v = i := by
  have hvn : v < n := by
    obtain ⟨x, _, e⟩ := h.cls p (List.mem_of_getElem? hi)
    rw [e] at hv
    exact (mem_part.1 hv).1
  obtain ⟨q, h1, h2⟩ := h.of_mem hvn
  exact ⟨hvn, h.uniq h1 hi h2 hv⟩
/-- Every member names its part. -/
theorem IsParts.part_of (h : IsParts n E Q) {i v : Nat} {p : List Nat} (hi : Q[i]? = some p) (hv : v ∈ p) : p = part n E v := by
  obtain ⟨x, _, e⟩ := h.cls p (List.mem_of_getElem? hi)
  rw [e] at hv ⊢
  exact part_eq (mem_part.1 hv).2
theorem IsParts.both_iff (h : IsParts n E Q) {u v : Nat} (hu : u < n) (hv : v < n) : ofQ Q u = ofQ Q v ↔ Both E u v := by
  obtain ⟨p, h1, h2⟩ := h.of_mem hu
  obtain ⟨q, h3, h4⟩ := h.of_mem hv
  constructor
  · intro e
    rw [e, h3] at h1
    cases h1
    rw [h.part_of h3 h2] at h4
    exact (mem_part.1 h4).2
  · intro k
    have : v ∈ p := by rw [h.part_of h1 h2]; exact mem_part.2 ⟨hv, k⟩
    exact h.uniq h1 h3 this h4
theorem IsParts.ne (h : IsParts n E Q) {p : List Nat} (hp : p ∈ Q) : p ≠ [] := by
  obtain ⟨v, hv, rfl⟩ := h.cls p hp
  exact part_ne hv
theorem nodup_below : ∀ (n : Nat) (l : List Nat), l.Nodup → (∀ x ∈ l, x < n) → l.length ≤ n
  | 0, l, _, h => by
    cases l with
    | nil => simp
    | cons a l => have := h a (by simp); omega
  | n + 1, l, hd, h => by
    have h1 := nodup_below n (l.erase n) (hd.erase n) fun x hx => by
      have := (List.Nodup.mem_erase_iff hd).1 hx
      have := h x this.2
      omega
    have h2 := List.length_erase_le (a := n) (l := l)
    by_cases k : n ∈ l
    · have := List.length_erase_of_mem k; omega
    · rw [List.erase_of_not_mem k] at h1; omega
theorem IsParts.len_le (h : IsParts n E Q) : Q.length ≤ n := by
  -- each part has a node, and these are unlike
  have h1 : (Q.map fun p => p.headD 0).Nodup := by
    refine List.pairwise_map.2 ?_
    refine (h.apart.imp_of_mem fun {p q} hp hq k e => ?_)
    have hp1 := h.ne hp
    have hq1 := h.ne hq
    obtain ⟨a, p', rfl⟩ := List.exists_cons_of_ne_nil hp1
    obtain ⟨b, q', rfl⟩ := List.exists_cons_of_ne_nil hq1
    simp only [List.headD_cons] at e
    subst e
    exact k a (by simp) (by simp)
  have h2 : ∀ x ∈ Q.map (fun p => p.headD 0), x < n := by
    intro x hx
    obtain ⟨p, hp, rfl⟩ := List.mem_map.1 hx
    obtain ⟨a, p', rfl⟩ := List.exists_cons_of_ne_nil (h.ne hp)
    obtain ⟨v, hv, e⟩ := h.cls _ hp
    have : a ∈ part n E v := by rw [← e]; simp
    simpa using (mem_part.1 this).1
  have := nodup_below n _ h1 h2
  simpa using this

/-! ### Which wait for which -/
def out (Q : List (List Nat)) (E : List (Nat × Nat)) (D : List Nat) (i : Nat) : Nat := E.countP fun e => decide (ofQ Q e.1 = i ∧ ofQ Q e.1 ≠ ofQ Q e.2 ∧ ofQ Q e.2 ∉ D)
def into (Q : List (List Nat)) (E : List (Nat × Nat)) (j : Nat) : List Nat := (E.filter fun e => decide (ofQ Q e.2 = j ∧ ofQ Q e.1 ≠ ofQ Q e.2)).map fun e => ofQ Q e.1
theorem out_more {D : List Nat} {j : Nat} (hj : j ∉ D) (i : Nat) : out Q E D i = out Q E (D ++ [j]) i + (into Q E j).count i := by
  unfold out into
  induction E with
  | nil => rfl
  | cons e E ih =>
    rw [List.countP_cons, List.countP_cons, List.filter_cons, ih]
    by_cases h1 : ofQ Q e.1 = ofQ Q e.2
    · simp [h1]
    · by_cases h2 : ofQ Q e.2 = j
      · subst h2
        by_cases h3 : ofQ Q e.1 = i
        · subst h3; simp [h1, hj]; omega
        · simp [h1, h3, hj]
      · by_cases h3 : ofQ Q e.1 = i
        · subst h3
          by_cases h4 : ofQ Q e.2 ∈ D <;> simp [h1, h2, h4]
          omega
        · simp [h1, h2, h3]

/-- Where one is in telling: D are told, w still waits, 'rest' is to be looked at. -/
structure Ki (n : Nat) (E : List (Nat × Nat)) (Q : List (List Nat)) (D : List Nat) (w : Nat → Nat) (free rest : List Nat) : Prop where
  waits : ∀ i, i < Q.length → w i = out Q E D i + rest.count i
  sorted : free.Pairwise (· < ·)
  free : ∀ i, i ∈ free ↔ i < Q.length ∧ i ∉ D ∧ w i = 0
  zero : ∀ i ∈ D, w i = 0
  lt : ∀ i ∈ D, i < Q.length
  rlt : ∀ i ∈ rest, i < Q.length
  nodup : D.Nodup

variable {D free rest : List Nat} {w : Nat → Nat}
theorem Ki.next {j : Nat} (h : Ki n E Q D w (j :: free) []) (hI : IsParts n E Q) (hE : In n E) : Ki n E Q (D ++ [j]) w free (into Q E j) := by
  have hj := (h.free j).1 (by simp)
  refine ⟨?_, (List.pairwise_cons.1 h.sorted).2, ?_, ?_, ?_, ?_, ?_⟩
  · intro i hi
    rw [h.waits i hi, ← out_more hj.2.1 i]
    simp
  · intro i
    constructor
    · intro hi
      have := (h.free i).1 (List.mem_cons_of_mem _ hi)
      have hne : i ≠ j := by have := (List.pairwise_cons.1 h.sorted).1 i hi; omega
      exact ⟨this.1, by simp [this.2.1, hne], this.2.2⟩
    · rintro ⟨h1, h2, h3⟩
      simp only [List.mem_append, List.mem_singleton, not_or] at h2
      rcases List.mem_cons.1 ((h.free i).2 ⟨h1, h2.1, h3⟩) with k | k
      · exact absurd k h2.2
      · exact k
  · intro i hi
    rcases List.mem_append.1 hi with k | k
    · exact h.zero i k
    · simp only [List.mem_singleton] at k; subst k; exact hj.2.2
  · intro i hi
    rcases List.mem_append.1 hi with k | k
    · exact h.lt i k
    · simp only [List.mem_singleton] at k; subst k; exact hj.1
  · intro i hi
    unfold into at hi
    obtain ⟨e, he, rfl⟩ := List.mem_map.1 hi
    exact hI.of_lt (hE e (List.mem_filter.1 he).1).1
  · rw [List.nodup_append]
    exact ⟨h.nodup, by simp, fun a ha b hb e => by simp only [List.mem_singleton] at hb; subst hb; subst e; exact hj.2.1 ha⟩
theorem Ki.head_pos {i : Nat} (h : Ki n E Q D w free (i :: rest)) : i < Q.length ∧ 1 ≤ w i ∧ i ∉ D ∧ i ∉ free := by
  have hi := h.rlt i (by simp)
  have h1 := h.waits i hi
  rw [List.count_cons_self] at h1
  refine ⟨hi, by omega, fun k => ?_, fun k => ?_⟩
  · have := h.zero i k; omega
  · have := ((h.free i).1 k).2.2; omega
theorem Ki.waits_down {i : Nat} (h : Ki n E Q D w free (i :: rest)) (x : Nat) (hx : x < Q.length) : upd w i (w i - 1) x = out Q E D x + rest.count x := by
  have h1 := h.waits x hx
  by_cases e : x = i
  · subst e
    rw [List.count_cons_self] at h1
    rw [upd_same]; omega
  · rw [List.count_cons_of_ne (Ne.symm e)] at h1
    rw [upd_other e]; exact h1
/-- One fewer to wait for, and still some. -/
theorem Ki.down {i : Nat} (h : Ki n E Q D w free (i :: rest)) (hw : w i - 1 ≠ 0) : Ki n E Q D (upd w i (w i - 1)) free rest := by
  obtain ⟨hi, hp, hD, hf⟩ := h.head_pos
  refine ⟨h.waits_down, h.sorted, ?_, ?_, h.lt, fun x hx => h.rlt x (List.mem_cons_of_mem _ hx), h.nodup⟩
  · intro x
    by_cases e : x = i
    · subst e
      rw [upd_same]
      exact ⟨fun k => absurd k hf, fun k => absurd k.2.2 hw⟩
    · rw [upd_other e]; exact h.free x
  · intro x hx
    have e : x ≠ i := by rintro rfl; exact hD hx
    rw [upd_other e]; exact h.zero x hx
/-- None any more: it comes in between. -/
theorem Ki.freed {i k : Nat} (h : Ki n E Q D w free (i :: rest)) (hw : w i - 1 = 0) (hk : k ≤ free.length) (h1 : ∀ x ∈ free.take k, x < i) (h2 : ∀ x ∈ free.drop k, i < x) :
    Ki n E Q D (upd w i (w i - 1)) (free.take k ++ i :: free.drop k) rest := by
  obtain ⟨hi, hp, hD, hf⟩ := h.head_pos
  have hm : ∀ x, x ∈ free.take k ++ i :: free.drop k ↔ x = i ∨ x ∈ free := by
    intro x
    have : x ∈ free ↔ x ∈ free.take k ∨ x ∈ free.drop k := by rw [← List.mem_append, List.take_append_drop]
    simp only [List.mem_append, List.mem_cons, this]
    constructor
    · rintro (g | g | g)
      · exact .inr (.inl g)
      · exact .inl g
      · exact .inr (.inr g)
    · rintro (g | g | g)
      · exact .inr (.inl g)
      · exact .inl g
      · exact .inr (.inr g)
  refine ⟨h.waits_down, ?_, ?_, ?_, h.lt, fun x hx => h.rlt x (List.mem_cons_of_mem _ hx), h.nodup⟩
  · have hs := h.sorted
    rw [← List.take_append_drop k free] at hs
    obtain ⟨s1, s2, s3⟩ := List.pairwise_append.1 hs
    refine List.pairwise_append.2 ⟨s1, List.pairwise_cons.2 ⟨h2, s2⟩, ?_⟩
    intro a ha b hb
    rcases List.mem_cons.1 hb with rfl | g
    · exact h1 a ha
    · exact s3 a ha b g
  · intro x
    rw [hm]
    by_cases e : x = i
    · subst e
      rw [upd_same]
      exact ⟨fun _ => ⟨hi, hD, hw⟩, fun _ => .inl rfl⟩
    · rw [upd_other e, ← h.free x]
      exact ⟨fun g => g.resolve_left e, .inr⟩
  · intro x hx
    have e : x ≠ i := by rintro rfl; exact hD hx
    rw [upd_other e]; exact h.zero x hx
/-- At the beginning. -/
theorem Ki.start (n : Nat) (E : List (Nat × Nat)) (Q : List (List Nat)) : Ki n E Q [] (out Q E []) ((List.range Q.length).filter fun i => decide (out Q E [] i = 0)) [] :=
  ⟨fun i _ => by simp, List.pairwise_lt_range.filter _, fun i => by simp, by simp, by simp, by simp, by simp⟩

/-! ### The document's order -/
def told (Q : List (List Nat)) (D : List Nat) : List (List Nat) := D.map fun d => Q.getD d []
theorem mem_told (h : IsParts n E Q) (hD : ∀ i ∈ D, i < Q.length) {x : Nat} (hx : x < n) : x ∈ (told Q D).flatten ↔ ofQ Q x ∈ D := by
  unfold told
  rw [List.mem_flatten]
  constructor
  · rintro ⟨p, hp, hxp⟩
    obtain ⟨d, hd, rfl⟩ := List.mem_map.1 hp
    have hq : Q[d]? = some (Q.getD d []) := by
      rw [List.getD_eq_getElem?_getD, List.getElem?_eq_getElem (hD d hd)]; rfl
    rw [(h.of_eq hq hxp).2]
    exact hd
  · intro hd
    obtain ⟨p, h1, h2⟩ := h.of_mem hx
    exact ⟨p, List.mem_map.2 ⟨_, hd, by rw [List.getD_eq_getElem?_getD, h1]; rfl⟩, h2⟩
theorem told_lt (h : IsParts n E Q) (hD : ∀ i ∈ D, i < Q.length) {x : Nat} (hx : x ∈ (told Q D).flatten) : x < n := by
  unfold told at hx
  obtain ⟨p, hp, hxp⟩ := List.mem_flatten.1 hx
  obtain ⟨d, hd, rfl⟩ := List.mem_map.1 hp
  have hq : Q[d]? = some (Q.getD d []) := by
    rw [List.getD_eq_getElem?_getD, List.getElem?_eq_getElem (hD d hd)]; rfl
  exact (h.of_eq hq hxp).1
theorem Ki.shut (h : Ki n E Q D w free []) (hI : IsParts n E Q) (hE : In n E) : Shut n E (told Q D).flatten := by
  intro u v hu hc
  refine hc.closed (S := fun x => x ∈ (told Q D).flatten) ?_ hu
  intro a b ha he
  have hab : a < n ∧ b < n := hE _ he
  have h1 := (mem_told hI h.lt hab.1).1 ha
  refine (mem_told hI h.lt hab.2).2 ?_
  have h2 := h.zero _ h1
  have h3 := h.waits _ (hI.of_lt hab.1)
  simp only [List.count_nil] at h3
  have h4 : out Q E D (ofQ Q a) = 0 := by omega
  unfold out at h4
  rw [List.countP_eq_zero] at h4
  have h5 : ¬ (ofQ Q a = ofQ Q a ∧ ofQ Q a ≠ ofQ Q b ∧ ofQ Q b ∉ D) := fun k => h4 (a, b) he (decide_eq_true k)
  refine byContradiction fun hn => h5 ⟨rfl, fun e => hn (e ▸ h1), hn⟩
/-- A sink's part is free. -/
theorem Ki.free_of_sink (h : Ki n E Q D w free []) (hI : IsParts n E Q) (hE : In n E) {v : Nat} (hs : Sink n E (told Q D).flatten v) : ofQ Q v ∈ free := by
  obtain ⟨hv, hT, hall⟩ := hs
  refine (h.free _).2 ⟨hI.of_lt hv, fun k => hT ((mem_told hI h.lt hv).2 k), ?_⟩
  rw [h.waits _ (hI.of_lt hv)]
  simp only [List.count_nil, Nat.add_zero]
  unfold out
  rw [List.countP_eq_zero]
  intro e he
  have hab := hE _ he
  simp only [decide_eq_true_eq]
  rintro ⟨e1, e2, e3⟩
  have h1 := (hI.both_iff hab.1 hv).1 e1
  have h2 : Com E v e.2 := h1.2.step he
  have h3 := hall e.2 hab.2 (fun k => e3 ((mem_told hI h.lt hab.2).1 k)) h2
  exact e2 (e1.trans ((hI.both_iff hv hab.2).2 ⟨h2, h3⟩))
theorem Ki.none_left (h : Ki n E Q D w [] []) (hI : IsParts n E Q) (hE : In n E) (v : Nat) : ¬ Sink n E (told Q D).flatten v := fun hs => by
  have := h.free_of_sink hI hE hs
  simp at this
/-- The first that is free is the document's next one. -/
theorem Ki.nxt {j : Nat} (h : Ki n E Q D w (j :: free) []) (hI : IsParts n E Q) (hE : In n E) (hQ : Q.Pairwise fun p q => p.headD 0 < q.headD 0) :
    ∃ v, Nxt n E (told Q D).flatten v ∧ Q.getD j [] = part n E v := by
  obtain ⟨hj, hjD, hw⟩ := (h.free j).1 (by simp)
  have hq : Q[j]? = some (Q.getD j []) := by
    rw [List.getD_eq_getElem?_getD, List.getElem?_eq_getElem hj]; rfl
  have hp : Q.getD j [] ∈ Q := List.mem_of_getElem? hq
  have hsorted : ∀ p ∈ Q, ∀ x ∈ p, p.headD 0 ≤ x := by
    intro p hp x hx
    obtain ⟨v, hv, e⟩ := hI.cls p hp
    have hs : p.Pairwise (· < ·) := by rw [e]; exact part_sorted
    cases p with
    | nil => simp at hx
    | cons a p =>
      simp only [List.headD_cons]
      rcases List.mem_cons.1 hx with rfl | k
      · exact Nat.le_refl _
      · exact Nat.le_of_lt ((List.pairwise_cons.1 hs).1 x k)
  obtain ⟨v, p', hvp⟩ := List.exists_cons_of_ne_nil (hI.ne hp)
  have hvm : v ∈ Q.getD j [] := by rw [hvp]; simp
  obtain ⟨hvn, hvj⟩ := hI.of_eq hq hvm
  have hvT : v ∉ (told Q D).flatten := fun k => hjD (by rw [← hvj]; exact (mem_told hI h.lt hvn).1 k)
  refine ⟨v, ⟨⟨hvn, hvT, ?_⟩, ?_⟩, hI.part_of hq hvm⟩
  · intro u hu huT hc
    have hclo : ∀ a b, (ofQ Q a = j ∧ a < n ∨ a ∈ (told Q D).flatten) → (a, b) ∈ E → (ofQ Q b = j ∧ b < n ∨ b ∈ (told Q D).flatten) := by
      intro a b ha he
      have hab : a < n ∧ b < n := hE _ he
      rcases ha with ⟨e, _⟩ | ha
      · have h3 := h.waits j hj
        simp only [List.count_nil, Nat.add_zero] at h3
        rw [hw] at h3
        unfold out at h3
        have h4 := List.countP_eq_zero.1 h3.symm (a, b) he
        simp only [decide_eq_true_eq] at h4
        by_cases e2 : ofQ Q b = j
        · exact .inl ⟨e2, hab.2⟩
        · refine .inr ((mem_told hI h.lt hab.2).2 (byContradiction fun hn => h4 ⟨e, fun k => e2 (by rw [← k]; exact e), hn⟩))
      · exact .inr (h_shut_step hI hE ha he)
    have := hc.closed (S := fun a => ofQ Q a = j ∧ a < n ∨ a ∈ (told Q D).flatten) hclo (.inl ⟨hvj, hvn⟩)
    rcases this with ⟨e, _⟩ | k
    · exact ((hI.both_iff hu hvn).1 (e.trans hvj.symm)).1
    · exact absurd k huT
  · intro u hu hs
    have hf := h.free_of_sink hI hE hs
    obtain ⟨p, hp1, hp2⟩ := hI.of_mem hs.1
    have h1 := hsorted p (List.mem_of_getElem? hp1) u hp2
    rcases List.mem_cons.1 hf with e | k
    · rw [e, hq] at hp1
      cases hp1
      rw [hvp] at h1
      simp only [List.headD_cons] at h1
      omega
    · have hlt := (List.pairwise_cons.1 h.sorted).1 _ k
      obtain ⟨g1, g2⟩ := List.getElem?_eq_some_iff.1 hp1
      obtain ⟨g3, g4⟩ := List.getElem?_eq_some_iff.1 hq
      have := List.pairwise_iff_getElem.1 hQ j (ofQ Q u) g3 g1 hlt
      rw [g2, g4, hvp] at this
      simp only [List.headD_cons] at this
      omega
where
  h_shut_step {a b : Nat} (hI : IsParts n E Q) (hE : In n E) (ha : a ∈ (told Q D).flatten) (he : (a, b) ∈ E) : b ∈ (told Q D).flatten := h.shut hI hE a b ha (Com.one he)
end
end Go.Proofs.Ytbfagejdpbagjaa
