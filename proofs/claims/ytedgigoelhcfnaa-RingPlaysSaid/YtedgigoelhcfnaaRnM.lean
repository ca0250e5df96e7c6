/- Layer 18 (ring), mathematics: who has which key. -/
set_option linter.unusedVariables false
namespace Go.Proofs.Ytedgigoelhcfnaa

/-- Who, and the key. -/
abbrev RgE := UInt32 × List UInt8
def rgAt (K : List RgE) (u : UInt32) : Option (List UInt8) := (K.find? fun e => e.1 == u).map (·.2)
def rgIns : List RgE → UInt32 → List UInt8 → List RgE
  | [], u, k => [(u, k)]
  | e :: r, u, k => if u < e.1 then (u, k) :: e :: r else e :: rgIns r u k
def rgCut (K : List RgE) (u : UInt32) : List RgE := K.filter fun e => !(e.1 == u)
/-- What Put answers, and the ring behind it. -/
def rgPut (K : List RgE) (u : UInt32) (k : List UInt8) : Nat × List RgE :=
  if k.length < 1 ∨ 64 < k.length then (1, K) else if (rgAt K u).isSome then (13, K) else if 32 ≤ K.length then (7, K) else (0, rgIns K u k)
/-- .. Drop. -/
def rgDrop (K : List RgE) (u : UInt32) : Nat × List RgE := if (rgAt K u).isSome then (0, rgCut K u) else (4, K)
/-- Rising by whose they are; of 1 to 64 bytes; 32 at most. -/
structure RgGood (K : List RgE) : Prop where
  rise : (K.map (·.1)).Pairwise (· < ·)
  len : K.length ≤ 32
  key : ∀ e ∈ K, 1 ≤ e.2.length ∧ e.2.length ≤ 64
theorem rgAt_none {K : List RgE} {u : UInt32} : rgAt K u = none ↔ u ∉ K.map (·.1) := by
  unfold rgAt
  rw [Option.map_eq_none_iff, List.find?_eq_none]
  constructor
  · intro h hm
    obtain ⟨e, he, rfl⟩ := List.mem_map.1 hm
    have := h e he
    simp at this
  · intro h e he
    simp only [beq_iff_eq]
    intro q
    exact h (List.mem_map.2 ⟨e, he, q⟩)
theorem rgAt_mem {K : List RgE} {u : UInt32} {k : List UInt8} (h : rgAt K u = some k) : (u, k) ∈ K := by
  unfold rgAt at h
  obtain ⟨e, he, rfl⟩ := Option.map_eq_some_iff.1 h
  have h1 := List.find?_some he
  have h2 := List.mem_of_find?_eq_some he
  simp only [beq_iff_eq] at h1
  subst h1
  exact h2
theorem rg_nodup {K : List RgE} (h : (K.map (·.1)).Pairwise (· < ·)) : (K.map (·.1)).Nodup := h.imp fun {a b} hab e => by subst e; exact UInt32.lt_irrefl a hab
theorem rgAt_of {K : List RgE} (hn : (K.map (·.1)).Pairwise (· < ·)) {u : UInt32} {k : List UInt8} (h : (u, k) ∈ K) : rgAt K u = some k := by
  cases hk : rgAt K u with
  | none => exact absurd (List.mem_map.2 ⟨_, h, rfl⟩) (rgAt_none.1 hk)
  | some k' =>
    have h2 := rgAt_mem hk
    have := rg_nodup hn
    obtain ⟨i, hi⟩ := List.mem_iff_getElem?.1 h
    obtain ⟨j, hj⟩ := List.mem_iff_getElem?.1 h2
    obtain ⟨a1, a2⟩ := List.getElem?_eq_some_iff.1 hi
    obtain ⟨b1, b2⟩ := List.getElem?_eq_some_iff.1 hj
    have hpw := List.pairwise_iff_getElem.1 hn
    rcases Nat.lt_trichotomy i j with q | q | q
    · have := hpw i j (by simpa using a1) (by simpa using b1) q
      rw [List.getElem_map, List.getElem_map, a2, b2] at this
      exact absurd this (UInt32.lt_irrefl u)
    · subst q
      rw [a2] at b2
      rw [(Prod.mk.injEq _ _ _ _ ▸ b2 : u = u ∧ k = k').2]
    · have := hpw j i (by simpa using b1) (by simpa using a1) q
      rw [List.getElem_map, List.getElem_map, a2, b2] at this
      exact absurd this (UInt32.lt_irrefl u)
/-- Where it is set in. -/
theorem rgIns_split : ∀ {K : List RgE} {u : UInt32} {k : List UInt8} {t : Nat}, (∀ e ∈ K.take t, e.1 < u) → (∀ e ∈ K.drop t, u < e.1) → rgIns K u k = K.take t ++ (u, k) :: K.drop t
  | [], u, k, t, _, _ => by simp [rgIns]
  | e :: r, u, k, 0, _, h => by
    have := h e (by simp)
    simp [rgIns, this]
  | e :: r, u, k, t + 1, h1, h2 => by
    have he := h1 e (by simp)
    have : ¬ u < e.1 := fun q => UInt32.lt_irrefl u (UInt32.lt_trans q he)
    rw [rgIns, if_neg this, rgIns_split (t := t) (fun x hx => h1 x (by simp [hx])) (fun x hx => h2 x (by simpa using hx))]
    rfl
theorem rgIns_mem : ∀ {K : List RgE} {u : UInt32} {k : List UInt8} {e : RgE}, e ∈ rgIns K u k ↔ e = (u, k) ∨ e ∈ K
  | [], u, k, e => by simp [rgIns]
  | x :: r, u, k, e => by
    unfold rgIns
    split
    · simp
    · simp only [List.mem_cons, rgIns_mem]
      constructor
      · rintro (h | h | h)
        · exact .inr (.inl h)
        · exact .inl h
        · exact .inr (.inr h)
      · rintro (h | h | h)
        · exact .inr (.inl h)
        · exact .inl h
        · exact .inr (.inr h)
theorem rgIns_len : ∀ (K : List RgE) (u : UInt32) (k : List UInt8), (rgIns K u k).length = K.length + 1
  | [], u, k => rfl
  | x :: r, u, k => by
    unfold rgIns
    split
    · rfl
    · rw [List.length_cons, rgIns_len r u k, List.length_cons]
theorem rgIns_rise : ∀ {K : List RgE} {u : UInt32} {k : List UInt8}, (K.map (·.1)).Pairwise (· < ·) → u ∉ K.map (·.1) → ((rgIns K u k).map (·.1)).Pairwise (· < ·)
  | [], u, k, _, _ => by simp [rgIns]
  | x :: r, u, k, h, hn => by
    rw [List.map_cons, List.pairwise_cons] at h
    rw [List.map_cons, List.mem_cons, not_or] at hn
    unfold rgIns
    split
    · rename_i hlt
      rw [List.map_cons, List.pairwise_cons, List.map_cons, List.pairwise_cons]
      refine ⟨fun y hy => ?_, h⟩
      rcases List.mem_cons.1 hy with e | e
      · rw [e]; exact hlt
      · exact UInt32.lt_trans hlt (h.1 y e)
    · rename_i hlt
      rw [List.map_cons, List.pairwise_cons]
      refine ⟨fun y hy => ?_, rgIns_rise h.2 hn.2⟩
      obtain ⟨e, he, rfl⟩ := List.mem_map.1 hy
      rcases rgIns_mem.1 he with q | q
      · rw [q]
        rw [UInt32.lt_iff_toNat_lt] at hlt ⊢
        have h3 : u.toNat ≠ x.1.toNat := fun q => hn.1 (UInt32.toNat_inj.1 q)
        show x.1.toNat < u.toNat
        omega
      · exact h.1 _ (List.mem_map.2 ⟨e, q, rfl⟩)
theorem rgCut_split {K : List RgE} {u : UInt32} {t : Nat} {x : RgE} (hn : (K.map (·.1)).Pairwise (· < ·)) (hx : K[t]? = some x) (hu : x.1 = u) : rgCut K u = K.take t ++ K.drop (t + 1) := by
  obtain ⟨h1, h2⟩ := List.getElem?_eq_some_iff.1 hx
  have hpw := List.pairwise_iff_getElem.1 hn
  have hK : K = K.take t ++ x :: K.drop (t + 1) := by rw [← h2, List.getElem_cons_drop, List.take_append_drop]
  have ha : ∀ e ∈ K.take t, e.1 ≠ u := fun e he q => by
    obtain ⟨i, hi⟩ := List.mem_iff_getElem?.1 he
    rw [List.getElem?_take] at hi
    split at hi
    · rename_i hit
      obtain ⟨a1, a2⟩ := List.getElem?_eq_some_iff.1 hi
      have := hpw i t (by simpa using a1) (by simpa using h1) hit
      rw [List.getElem_map, List.getElem_map, a2, h2, q, hu] at this
      exact UInt32.lt_irrefl u this
    · cases hi
  have hb : ∀ e ∈ K.drop (t + 1), e.1 ≠ u := fun e he q => by
    obtain ⟨i, hi⟩ := List.mem_iff_getElem?.1 he
    rw [List.getElem?_drop] at hi
    obtain ⟨a1, a2⟩ := List.getElem?_eq_some_iff.1 hi
    have := hpw t (t + 1 + i) (by simpa using h1) (by simpa using a1) (by omega)
    rw [List.getElem_map, List.getElem_map, a2, h2, q, hu] at this
    exact UInt32.lt_irrefl u this
  unfold rgCut
  conv => lhs; rw [hK]
  rw [List.filter_append, List.filter_cons, if_neg (by simp [hu]), List.filter_eq_self.2 fun e he => by simpa using ha e he, List.filter_eq_self.2 fun e he => by simpa using hb e he]
theorem rgPut_good {K : List RgE} (h : RgGood K) (u : UInt32) (k : List UInt8) : RgGood (rgPut K u k).2 := by
  unfold rgPut
  split
  · exact h
  · rename_i hk
    split
    · exact h
    · rename_i hs
      split
      · exact h
      · rename_i hl
        have hn : rgAt K u = none := by cases q : rgAt K u with | none => rfl | some _ => rw [q] at hs; simp at hs
        refine ⟨rgIns_rise h.rise (rgAt_none.1 hn), by rw [rgIns_len]; omega, fun e he => ?_⟩
        rcases rgIns_mem.1 he with q | q
        · rw [q]; show 1 ≤ k.length ∧ k.length ≤ 64; omega
        · exact h.key e q
theorem rgDrop_good {K : List RgE} (h : RgGood K) (u : UInt32) : RgGood (rgDrop K u).2 := by
  unfold rgDrop
  split
  · refine ⟨?_, Nat.le_trans (List.length_filter_le _ _) h.len, fun e he => h.key e (List.mem_filter.1 he).1⟩
    exact List.Pairwise.sublist ((List.filter_sublist (l := K)).map _) h.rise
  · exact h
theorem rgGood_nil : RgGood [] := ⟨List.Pairwise.nil, Nat.zero_le _, fun e h => by cases h⟩
/-- Who is asked for: only a Put or a Drop of theirs turns it. -/
theorem rgAt_ins {K : List RgE} {u v : UInt32} {k : List UInt8} (h : (K.map (·.1)).Pairwise (· < ·)) (hn : u ∉ K.map (·.1)) : rgAt (rgIns K u k) v = if v = u then some k else rgAt K v := by
  have hr := rgIns_rise (k := k) h hn
  split
  · rename_i e
    subst e
    exact rgAt_of hr (rgIns_mem.2 (.inl rfl))
  · rename_i e
    cases hv : rgAt K v with
    | none =>
      rw [rgAt_none]
      intro hm
      obtain ⟨x, hx, rfl⟩ := List.mem_map.1 hm
      rcases rgIns_mem.1 hx with q | q
      · exact e (by rw [q])
      · exact rgAt_none.1 hv (List.mem_map.2 ⟨x, q, rfl⟩)
    | some k' => exact rgAt_of hr (rgIns_mem.2 (.inr (rgAt_mem hv)))
theorem rgAt_cut {K : List RgE} {u v : UInt32} (h : (K.map (·.1)).Pairwise (· < ·)) : rgAt (rgCut K u) v = if v = u then none else rgAt K v := by
  have hr : ((rgCut K u).map (·.1)).Pairwise (· < ·) := List.Pairwise.sublist ((List.filter_sublist (l := K)).map _) h
  split
  · rename_i e
    subst e
    rw [rgAt_none]
    intro hm
    obtain ⟨x, hx, q⟩ := List.mem_map.1 hm
    have := (List.mem_filter.1 hx).2
    simp [q] at this
  · rename_i e
    cases hv : rgAt K v with
    | none =>
      rw [rgAt_none]
      intro hm
      obtain ⟨x, hx, rfl⟩ := List.mem_map.1 hm
      exact rgAt_none.1 hv (List.mem_map.2 ⟨x, (List.mem_filter.1 hx).1, rfl⟩)
    | some k' => exact rgAt_of hr (List.mem_filter.2 ⟨rgAt_mem hv, by simpa using e⟩)
end Go.Proofs.Ytedgigoelhcfnaa
