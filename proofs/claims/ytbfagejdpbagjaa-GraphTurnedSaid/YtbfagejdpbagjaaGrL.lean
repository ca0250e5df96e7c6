/- Layer 9 (graph): slices.BinarySearch and slices.Insert over a row of the call's own that was cut at its front. -/
import Derived.Test.YtbfagejdpbagjaaGrJ
set_option linter.unusedVariables false
set_option linter.unusedSimpArgs false
namespace Go.Proofs.Ytbfagejdpbagjaa
open Go Go.RowKit

/-- A slice of numbers in a block of the call's own (from base on), wherever in it. -/
structure OwF (w : World) (base : Nat) (A : Option Addr) (c n : Nat) (l : List Nat) : Prop where
  len : l.length = n
  le : n ≤ c
  cap : c ≤ maxLen
  at_ : (A = none ∧ n = 0 ∧ c = 0) ∨ ∃ g o cur, A = some ⟨g, o, none⟩ ∧ base ≤ g ∧ Bk w g 3 cur ∧ o + c ≤ cur.length ∧ ∀ j v, l[j]? = some v → w.cell? ⟨g, o + j, none⟩ = some (ni v)
section
variable {w w' : World} {base c n : Nat} {A : Option Addr} {l : List Nat}
theorem OwI.owF (h : OwI w base A c n l) : OwF w base A c n l := by
  have hl := h.len
  have hle := h.le
  rcases h.2 with ⟨h1, h2⟩ | ⟨g, cap, cur, h1, h2, h3, h4, h5, h6, h7⟩
  · simp only [Value.slice.injEq] at h1
    obtain ⟨rfl, _, rfl⟩ := h1
    exact ⟨hl, hle, by simp [maxLen], .inl ⟨rfl, h2, rfl⟩⟩
  · simp only [Value.slice.injEq, true_and] at h1
    obtain ⟨rfl, rfl⟩ := h1
    refine ⟨hl, hle, h5, .inr ⟨g, 0, cur.toList, rfl, h2, by unfold Bk; rw [Array.toArray_toList]; exact h3, by rw [Array.length_toList]; omega, fun j v hv => ?_⟩⟩
    rw [Nat.zero_add, cell_of_row w g j cur 3 (0, 0) h3, ← Array.getElem?_toList]
    have h8 : (cur.toList.take (n * 1))[j]? = some (ni v) := by rw [h7, List.getElem?_map, hv]; rfl
    rw [List.getElem?_take] at h8
    split at h8
    · exact h8
    · cases h8
theorem OwF.low (h : OwF w base A c n l) {k : Nat} (hk : blockOf A = some k) : base ≤ k ∧ k < w.heap.size := by
  rcases h.at_ with ⟨rfl, _⟩ | ⟨g, o, cur, rfl, h1, h2, _, _⟩
  · cases hk
  · cases hk
    exact ⟨h1, h2.lt⟩
theorem OwF.keep {G : Nat → Prop} (h : OwF w base A c n l) (T : Turn G w w') (hn : ∀ k, blockOf A = some k → ¬ G k) : OwF w' base A c n l := by
  refine ⟨h.len, h.le, h.cap, ?_⟩
  rcases h.at_ with h0 | ⟨g, o, cur, rfl, h1, h2, h3, h4⟩
  · exact .inl h0
  · exact .inr ⟨g, o, cur, rfl, h1, T.bk h2 (hn g rfl), h3, fun j v hv => (T.cell (p := ⟨g, o + j, none⟩) h2.lt (hn g rfl)).trans (h4 j v hv)⟩
theorem OwF.some_ (h : OwF w base A c n l) (hn : 0 < n) : ∃ g o, A = some ⟨g, o, none⟩ ∧ base ≤ g ∧ g < w.heap.size ∧ (∀ j v, l[j]? = some v → w.cell? ⟨g, o + j, none⟩ = some (ni v)) := by
  rcases h.at_ with ⟨_, h0, _⟩ | ⟨g, o, cur, rfl, h1, h2, h3, h4⟩
  · omega
  · exact ⟨g, o, rfl, h1, h2.lt, h4⟩
/-- Cut by its first. -/
theorem OwF.tail {x : Nat} (h : OwF w base A c (n + 1) (x :: l)) : ∃ g o, A = some ⟨g, o, none⟩ ∧ w.cell? ⟨g, o, none⟩ = some (ni x) ∧ OwF w base (some ⟨g, if c = 1 then o else o + 1, none⟩) (c - 1) n l := by
  rcases h.at_ with ⟨_, h0, _⟩ | ⟨g, o, cur, rfl, h1, h2, h3, h4⟩
  · omega
  · have h5 := h.le
    have h6 := h.cap
    have h7 := h.len
    refine ⟨g, o, rfl, h4 0 x rfl, ⟨by simpa using h7, by omega, by omega, .inr ⟨g, _, cur, rfl, h1, h2, ?_, fun j v hv => ?_⟩⟩⟩
    · split <;> omega
    · have hj : j < l.length := (List.getElem?_eq_some_iff.1 hv).1
      simp only [List.length_cons] at h7
      rw [if_neg (by omega)]
      have := h4 (j + 1) v (by rw [List.getElem?_cons_succ]; exact hv)
      rw [show o + 1 + j = o + (j + 1) by omega]
      exact this
end
/-! ### Cells of a block, set one by one -/
theorem bk_setCells {g : Nat} {t : TypeId} : ∀ (vs : List Value) (o : Nat) (w : World) (cur : List Value), Bk w g t cur → ∃ cur', Bk (w.setCells g o vs) g t cur' ∧ cur'.length = cur.length
  | [], _, w, cur, h => ⟨cur, h, rfl⟩
  | v :: r, o, w, cur, h => by
    obtain ⟨cur', h1, h2⟩ := bk_setCells r (o + 1) (w.setCell ⟨g, o, none⟩ v) _ (h.set_ o v)
    exact ⟨cur', h1, by rw [h2, List.length_set]⟩
theorem turn_setCells {g : Nat} : ∀ (vs : List Value) (o : Nat) (w : World), Turn (fun k => k = g) w (w.setCells g o vs)
  | [], _, w => Turn.refl _ _
  | v :: r, o, w => ((Turn.refl (fun k => k = g) w).setCell (p := ⟨g, o, none⟩) (fun _ => rfl) v).trans (turn_setCells r (o + 1) _)
theorem bk_some {w : World} {g : Nat} {t : TypeId} {cur : List Value} (h : Bk w g t cur) {i : Nat} (hi : i < cur.length) : (w.cell? ⟨g, i, none⟩).isSome = true := by
  rw [h.cell, List.getElem?_eq_getElem hi]; rfl
/-- One more in between. -/
def ins (l : List Nat) (k v : Nat) : List Nat := l.take k ++ v :: l.drop k
theorem ins_len {l : List Nat} {k v : Nat} (hk : k ≤ l.length) : (ins l k v).length = l.length + 1 := by
  unfold ins
  rw [List.length_append, List.length_cons, List.length_take, List.length_drop]
  omega
theorem ins_at {l : List Nat} {k v : Nat} (hk : k ≤ l.length) {j x : Nat} (h : (ins l k v)[j]? = some x) : (j < k ∧ l[j]? = some x) ∨ (j = k ∧ x = v) ∨ (k < j ∧ (l.drop k)[j - (k + 1)]? = some x) := by
  unfold ins at h
  have hl : (l.take k).length = k := by rw [List.length_take]; omega
  rcases Nat.lt_trichotomy j k with g | g | g
  · rw [List.getElem?_append_left (by omega), List.getElem?_take_of_lt g] at h
    exact .inl ⟨g, h⟩
  · subst g
    rw [List.getElem?_append_right (by omega), hl, Nat.sub_self] at h
    exact .inr (.inl ⟨rfl, by simpa using h.symm⟩)
  · rw [List.getElem?_append_right (by omega), hl] at h
    obtain ⟨m, hm⟩ : ∃ m, j - k = m + 1 := ⟨j - k - 1, by omega⟩
    rw [hm, List.getElem?_cons_succ] at h
    exact .inr (.inr ⟨g, by rw [show j - (k + 1) = m by omega]; exact h⟩)
theorem insert_any (w : World) (base : Nat) (A : Option Addr) (c n : Nat) (l : List Nat) (h : OwF w base A c n l) (k : Nat) (hk : k ≤ n) (hn : n ≤ 1000000) (vb v : Nat) (hv : Bk w vb 3 [ni v]) (hvA : blockOf A ≠ some vb) (hbase : base ≤ w.heap.size) :
    Calls Try.prog 28 #[.slice A n c, .int .i64 (k : Int), .slice (some ⟨vb, 0, none⟩) 1 1] w fun e w' => ∃ A' c', e = .returned (.slice A' (n + 1) c') ∧ OwF w' base A' c' (n + 1) (ins l k v) ∧
      Turn (fun x => blockOf A = some x) w w' ∧ (blockOf A' = blockOf A ∨ ∃ x, blockOf A' = some x ∧ w.heap.size ≤ x) := by
  have hlen := h.len
  have hle := h.le
  have hcap := h.cap
  have hvs : ∀ j u, [ni v][j]? = some u → w.cell? ⟨vb, 0 + j, none⟩ = some u := fun j u hu => by rw [Nat.zero_add, hv.cell]; exact hu
  have h1v : ∀ u ∈ [ni v], u.oneCell' = true := ni_one [v]
  have hlcs : (l.map ni).length = n := by simp [hlen]
  have hcap63 : c ≤ 9223372036854775807 := by simp only [maxLen] at hcap; omega
  by_cases hkn : k = n
  · subst hkn
    have hins : ins l k v = l ++ [v] := by unfold ins; rw [← hlen, List.take_length, List.drop_length]
    rw [hins]
    by_cases hroom : k + 1 ≤ c
    · rcases h.at_ with ⟨hA, _, hc0⟩ | ⟨g, o, cur, rfl, h1, h2, h3, h4⟩
      · omega
      · refine (Any2.slices_Insert_int_end_room laysNm221 g o k c vb 0 1 1 [ni v] w (by omega) hroom hcap63 rfl (fun j hj => bk_some h2 (by omega)) (fun j _ => h2.frozen _) hvs h1v).mono ?_
        rintro e w' ⟨rfl, rfl⟩
        obtain ⟨cur', hb', hl'⟩ := bk_setCells [ni v] (o + k) w cur h2
        refine ⟨some ⟨g, o, none⟩, c, rfl, ⟨by simp [hlen], hroom, hcap, .inr ⟨g, o, cur', rfl, h1, hb', by omega, fun j x hx => ?_⟩⟩, (turn_setCells _ _ _).mono fun x _ e => by rw [e]; rfl, .inl rfl⟩
        by_cases hj : j < k
        · rw [List.getElem?_append_left (by omega)] at hx
          rw [World.cell?_setCells_out g [ni v] (o + k) w ⟨g, o + j, none⟩ (fun _ _ => .inl (by show o + j < o + k; omega))]
          exact h4 j x hx
        · have hlt := (List.getElem?_eq_some_iff.1 hx).1
          simp only [List.length_append, List.length_singleton, hlen] at hlt
          obtain rfl : j = k := by omega
          rw [List.getElem?_append_right (by omega), hlen, Nat.sub_self] at hx
          simp only [List.getElem?_cons_zero, Option.some.injEq] at hx
          subst hx
          have := World.cell?_setCells_in g [ni v] (o + j) w (fun i hi => by
            have : i = 0 := by simpa using hi
            subst this
            exact bk_some h2 (by omega)) 0 (by simp)
          rw [Nat.add_zero] at this
          exact this
    · refine (Any2.slices_Insert_int_end_grow laysNm221 A k c vb 0 1 1 (l.map ni) [ni v] w (by omega) hle (by omega) (by omega) hlcs rfl (fun e => by
        rcases h.at_ with ⟨_, h0, _⟩ | ⟨g, o, cur, e2, _⟩
        · exact h0
        · rw [e] at e2; cases e2) (fun a ha j u hu => by
        rcases h.at_ with ⟨e2, _⟩ | ⟨g, o, cur, e2, h1, h2, h3, h4⟩
        · rw [e2] at ha; cases ha
        · rw [e2] at ha
          obtain rfl := Option.some.inj ha
          rw [addPlain]
          rw [List.getElem?_map] at hu
          cases hj : l[j]? with
          | none => rw [hj] at hu; cases hu
          | some x =>
            rw [hj] at hu
            obtain rfl := Option.some.inj hu
            exact h4 j x hj) hvs h1v).mono ?_
      rintro e w' ⟨rfl, rfl⟩
      have hgc := grownCap_ge w (k + 1) c 3
      have hgm := grownCap_le_maxLen w (k + 1) c 3 (by simp only [maxLen]; omega)
      obtain ⟨G, hG⟩ : ∃ G, G = grownCap w (k + 1) c 3 := ⟨_, rfl⟩
      have hb := Bk.new w.drew 3 (l.map ni ++ [ni v] ++ (Builtin.zeroCells (Value.int .i64 0).cells (G - (k + 1))).toList)
      have harr : (l.map ni ++ [ni v] ++ (Builtin.zeroCells (Value.int .i64 0).cells (G - (k + 1))).toList).toArray = (l.map ni ++ [ni v]).toArray ++ Builtin.zeroCells (Value.int .i64 0).cells (G - (k + 1)) := by simp
      rw [harr] at hb
      have hsz : (Builtin.zeroCells (Value.int .i64 0).cells (G - (k + 1))).toList.length = G - (k + 1) := by
        rw [Array.length_toList, size_zeroCells]; simp [Value.cells]
      rw [hG] at hb hsz
      refine ⟨some ⟨w.heap.size, 0, none⟩, grownCap w (k + 1) c 3, rfl, ⟨by simp [hlen], hgc, hgm, .inr ⟨w.heap.size, 0, _, rfl, hbase, hb, ?_, fun j x hx => ?_⟩⟩, ?_, .inr ⟨w.heap.size, rfl, Nat.le_refl _⟩⟩
      · rw [List.length_append, hsz, List.length_append, hlcs]
        simp only [List.length_singleton]
        omega
      · rw [Nat.zero_add]
        have hjl := (List.getElem?_eq_some_iff.1 hx).1
        refine (hb.cell j).trans ?_
        rw [List.getElem?_append_left (by simp at hjl ⊢; omega)]
        have : l.map ni ++ [ni v] = (l ++ [v]).map ni := by simp
        rw [this, List.getElem?_map, hx]; rfl
      · exact Turn.ofBelow ((belowDrews (Below.refl _ w) 1).alloc (Nat.le_refl _) _)
  · have hkl : k < n := by omega
    rcases h.at_ with ⟨_, h0, _⟩ | ⟨g, o, cur, rfl, h1, h2, h3, h4⟩
    · omega
    have hcs : ∀ j u, (l.map ni)[j]? = some u → w.cell? ⟨g, o + j, none⟩ = some u := fun j u hu => by
      rw [List.getElem?_map] at hu
      cases hj : l[j]? with
      | none => rw [hj] at hu; cases hu
      | some x =>
        rw [hj] at hu
        obtain rfl := Option.some.inj hu
        exact h4 j x hj
    have hvg : vb ≠ g := fun e => hvA (by rw [e]; rfl)
    have hdrop : ((l.map ni).drop k).length = n - k := by rw [List.length_drop, hlcs]
    by_cases hroom : n + 1 ≤ c
    · refine (Any2.slices_Insert_int_shift laysNm221 g o n c k vb 0 1 1 (l.map ni) [ni v] w hkl (by omega) hroom hcap63 hvg hlcs rfl hcs (fun j hj => bk_some h2 (by omega)) (fun j _ => h2.frozen _) hvs (ni_one l) h1v 3 3 1 cur.length
        (by unfold World.shape?; rw [show w.heap[vb]? = some (.cells [ni v].toArray 3 (0, 0)) from hv]; rfl) (by unfold World.shape?; rw [show w.heap[g]? = some (.cells cur.toArray 3 (0, 0)) from h2]; simp) (by omega) (hv.frozen _) (hv.frozen _)).mono ?_
      rintro e w' ⟨rfl, rfl⟩
      have h2d : Bk w.drew g 3 cur := h2
      obtain ⟨cur1, hb1, hl1⟩ := bk_setCells ((l.map ni).drop k) (o + (k + 1)) w.drew cur h2d
      obtain ⟨cur2, hb2, hl2⟩ := bk_setCells [ni v] (o + k) _ cur1 hb1
      refine ⟨some ⟨g, o, none⟩, c, rfl, ⟨by rw [ins_len (by omega)]; omega, hroom, hcap, .inr ⟨g, o, cur2, rfl, h1, hb2, by omega, fun j x hx => ?_⟩⟩, ?_, .inl rfl⟩
      · rcases ins_at (by omega) hx with ⟨hj, hx⟩ | ⟨rfl, rfl⟩ | ⟨hj, hx⟩
        · rw [World.cell?_setCells_out g [ni v] (o + k) _ ⟨g, o + j, none⟩ (fun _ _ => .inl (by show o + j < o + k; omega)), World.cell?_setCells_out g _ (o + (k + 1)) _ ⟨g, o + j, none⟩ (fun _ _ => .inl (by show o + j < o + (k + 1); omega))]
          exact h4 j x hx
        · have := World.cell?_setCells_in g [ni x] (o + j) (w.drew.setCells g (o + (j + 1)) ((l.map ni).drop j)) (fun i hi => by
            have : i = 0 := by simpa using hi
            subst this
            exact bk_some hb1 (by omega)) 0 (by simp)
          rw [Nat.add_zero] at this
          exact this
        · have hjl := (List.getElem?_eq_some_iff.1 hx).1
          rw [List.length_drop] at hjl
          rw [World.cell?_setCells_out g [ni v] (o + k) _ ⟨g, o + j, none⟩ (fun _ _ => .inr (by show o + k + 1 ≤ o + j; omega))]
          have := World.cell?_setCells_in g ((l.map ni).drop k) (o + (k + 1)) w.drew (fun i hi => by
            rw [hdrop] at hi
            exact bk_some h2d (by omega)) (j - (k + 1)) (by rw [hdrop]; omega)
          rw [show o + (k + 1) + (j - (k + 1)) = o + j by omega] at this
          rw [this]
          have h9 : ((l.map ni).drop k)[j - (k + 1)]? = some (ni x) := by rw [← List.map_drop, List.getElem?_map, hx]; rfl
          rw [List.getElem?_eq_getElem (by rw [hdrop]; omega)] at h9
          exact h9
      · refine (((Turn.refl (fun k => k = g) w).drew.trans (turn_setCells _ _ _)).trans (turn_setCells _ _ _)).mono fun x _ e => ?_
        rw [e]; rfl
    · refine (Any2.slices_Insert_int_grow laysNm221 g o n c k vb 0 1 1 (l.map ni) [ni v] w hkl (by omega) hle (by omega) (by omega) hlcs rfl hcs hvs (ni_one l) h1v).mono ?_
      rintro e w' ⟨rfl, rfl⟩
      have hgc := grownCap_ge w (n + 1) c 3
      have hgm := grownCap_le_maxLen w (n + 1) c 3 (by simp only [maxLen]; omega)
      obtain ⟨G, hG⟩ : ∃ G, G = grownCap w (n + 1) c 3 := ⟨_, rfl⟩
      have hGe : (laysNm221_ren.t 3) = 3 := rfl
      rw [hGe]
      rw [← hG] at hgc hgm ⊢
      have hz1 : ∀ m, (Builtin.zeroCells (Value.int .i64 0).cells m).toList.length = m := fun m => by
        rw [Array.length_toList, size_zeroCells]; simp [Value.cells]
      obtain ⟨row, hrow⟩ : ∃ row : List Value, row = (l.map ni).take k ++ (Builtin.zeroCells (Value.int .i64 0).cells (n + 1 - k)).toList ++ (Builtin.zeroCells (Value.int .i64 0).cells (G - (n + 1))).toList := ⟨_, rfl⟩
      have harr : row.toArray = ((l.map ni).take k).toArray ++ Builtin.zeroCells (Value.int .i64 0).cells (n + 1 - k) ++ Builtin.zeroCells (Value.int .i64 0).cells (G - (n + 1)) := by rw [hrow]; simp
      have hrl : row.length = G := by
        rw [hrow, List.length_append, List.length_append, hz1, hz1, List.length_take, hlcs]
        omega
      rw [← harr]
      have hb0 := Bk.new w 3 row
      have hb0d : Bk (w.alloc (.cells row.toArray 3)).drew w.heap.size 3 row := hb0
      obtain ⟨cur1, hb1, hl1⟩ := bk_setCells [ni v] k _ row hb0d
      have hb1d : Bk ((w.alloc (.cells row.toArray 3)).drew.setCells w.heap.size k [ni v]).drew w.heap.size 3 cur1 := hb1
      obtain ⟨cur2, hb2, hl2⟩ := bk_setCells ((l.map ni).drop k) (k + 1) _ cur1 hb1d
      refine ⟨some ⟨w.heap.size, 0, none⟩, G, rfl, ⟨by rw [ins_len (by omega)]; omega, hgc, hgm, .inr ⟨w.heap.size, 0, cur2, rfl, hbase, hb2, by omega, fun j x hx => ?_⟩⟩, ?_, .inr ⟨w.heap.size, rfl, Nat.le_refl _⟩⟩
      · rw [Nat.zero_add]
        rcases ins_at (by omega) hx with ⟨hj, hx⟩ | ⟨rfl, rfl⟩ | ⟨hj, hx⟩
        · rw [World.cell?_setCells_out w.heap.size _ (k + 1) _ ⟨w.heap.size, j, none⟩ (fun _ _ => .inl (by show j < k + 1; omega))]
          refine (show ((w.alloc (.cells row.toArray 3)).drew.setCells w.heap.size k [ni v]).cell? ⟨w.heap.size, j, none⟩ = some (ni x) from ?_)
          rw [World.cell?_setCells_out w.heap.size [ni v] k _ ⟨w.heap.size, j, none⟩ (fun _ _ => .inl (by show j < k; omega))]
          refine (hb0d.cell j).trans ?_
          rw [hrow, List.append_assoc, List.getElem?_append_left (by rw [List.length_take, hlcs]; omega), List.getElem?_take_of_lt hj, List.getElem?_map, hx]; rfl
        · rw [World.cell?_setCells_out w.heap.size _ (j + 1) _ ⟨w.heap.size, j, none⟩ (fun _ _ => .inl (by show j < j + 1; omega))]
          refine (show ((w.alloc (.cells row.toArray 3)).drew.setCells w.heap.size j [ni x]).cell? ⟨w.heap.size, j, none⟩ = some (ni x) from ?_)
          have := World.cell?_setCells_in w.heap.size [ni x] j (w.alloc (.cells row.toArray 3)).drew (fun i hi => by
            have : i = 0 := by simpa using hi
            subst this
            exact bk_some hb0d (by omega)) 0 (by simp)
          rw [Nat.add_zero] at this
          exact this
        · have hjl := (List.getElem?_eq_some_iff.1 hx).1
          rw [List.length_drop] at hjl
          have := World.cell?_setCells_in w.heap.size ((l.map ni).drop k) (k + 1) _ (fun i hi => by
            rw [hdrop] at hi
            exact bk_some hb1d (by omega)) (j - (k + 1)) (by rw [hdrop]; omega)
          rw [show k + 1 + (j - (k + 1)) = j by omega] at this
          rw [this]
          have h9 : ((l.map ni).drop k)[j - (k + 1)]? = some (ni x) := by rw [← List.map_drop, List.getElem?_map, hx]; rfl
          rw [List.getElem?_eq_getElem (by rw [hdrop]; omega)] at h9
          exact h9
      · have hb : Below w.heap.size w ((w.alloc (.cells row.toArray 3)).drew) := ((Below.refl _ w).alloc (Nat.le_refl _) _).drew
        have h1 := turn_setCells (g := w.heap.size) [ni v] k (w.alloc (.cells row.toArray 3)).drew
        have h2' := turn_setCells (g := w.heap.size) ((l.map ni).drop k) (k + 1) ((w.alloc (.cells row.toArray 3)).drew.setCells w.heap.size k [ni v]).drew
        refine ((Turn.ofBelow (G := fun x => blockOf (some ⟨g, o, none⟩) = some x) hb).then_ h1 (fun x hx e => by omega)).drew.then_ h2' (fun x hx e => by omega)
/-- Where a number that is not there would come in a row that rises. -/
theorem search_any (w : World) (base : Nat) (A : Option Addr) (c n : Nat) (l : List Nat) (h : OwF w base A c n l) (hs : l.Pairwise (· < ·)) (hn : n ≤ 1000000) (x : Nat) (hx : x ∉ l) :
    Calls Try.prog 27 #[.slice A n c, ni x] w fun e w' => ∃ k b, e = .returned (.tuple #[.int .i64 ((k : Nat) : Int), .bool b]) ∧ k ≤ n ∧ (∀ y ∈ l.take k, y < x) ∧ (∀ y ∈ l.drop k, x < y) ∧ ∃ q, w' = w.drewN q := by
  have hlen := h.len
  by_cases h0 : n = 0
  · subst h0
    have hl : l = [] := List.eq_nil_of_length_eq_zero hlen
    subst hl
    refine (slices_BinarySearch_int_empty A c x w).mono ?_
    rintro e w' ⟨rfl, rfl⟩
    exact ⟨0, false, rfl, Nat.le_refl _, by simp, by simp, 0, rfl⟩
  · obtain ⟨g, o, rfl, _, _, hc⟩ := h.some_ (by omega)
    refine (slices_BinarySearch_int g o n c (l.map Int.ofNat) x w (by simp [hlen]) (by omega) (fun j hj => by
      obtain ⟨y, h1, h2⟩ := getD_map l hj
      rw [h2]
      exact hc j y h1) (by
      rw [List.take_of_length_le (by simp [hlen])]
      exact List.pairwise_map.2 (hs.imp fun {a b} k => by show (a : Int) ≤ (b : Int); omega))).mono ?_
    rintro e w' ⟨rfl, q, rfl⟩
    rw [List.take_of_length_le (by simp [hlen])]
    have hcnt : (l.map Int.ofNat).countP (fun y => decide (y < (x : Int))) = l.countP (fun y => decide (y < x)) := by
      rw [List.countP_map]
      refine List.countP_congr fun y _ => ?_
      show decide ((y : Int) < (x : Int)) = true ↔ _
      simp
    obtain ⟨k1, k2, k3⟩ := split_lt l hs x hx
    refine ⟨l.countP (fun y => decide (y < x)), _, by rw [hcnt], by rw [← hlen]; exact k1, k2, k3, q, rfl⟩
where
  split_lt : ∀ (l : List Nat), l.Pairwise (· < ·) → ∀ x, x ∉ l → l.countP (fun y => decide (y < x)) ≤ l.length ∧ (∀ y ∈ l.take (l.countP fun y => decide (y < x)), y < x) ∧ (∀ y ∈ l.drop (l.countP fun y => decide (y < x)), x < y)
    | [], _, x, _ => by simp
    | a :: l, hs, x, hx => by
      obtain ⟨h1, h2⟩ := List.pairwise_cons.1 hs
      simp only [List.mem_cons, not_or] at hx
      by_cases ha : a < x
      · obtain ⟨k1, k2, k3⟩ := split_lt l h2 x hx.2
        rw [List.countP_cons_of_pos (by simpa using ha)]
        refine ⟨by simp; omega, ?_, ?_⟩
        · intro y hy
          rw [List.take_succ_cons] at hy
          rcases List.mem_cons.1 hy with rfl | hy
          · exact ha
          · exact k2 y hy
        · intro y hy
          rw [List.drop_succ_cons] at hy
          exact k3 y hy
      · have hz : l.countP (fun y => decide (y < x)) = 0 := by
          rw [List.countP_eq_zero]
          intro y hy
          have := h1 y hy
          simp; omega
        rw [List.countP_cons_of_neg (by simpa using ha), hz]
        refine ⟨by omega, by simp, fun y hy => ?_⟩
        rw [List.drop_zero] at hy
        rcases List.mem_cons.1 hy with rfl | hy
        · omega
        · have := h1 y hy; omega
end Go.Proofs.Ytbfagejdpbagjaa
