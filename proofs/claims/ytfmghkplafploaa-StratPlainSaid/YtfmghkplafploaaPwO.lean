/- Texts, packed: GrL GrN GrP0 -/
import Derived.Test.YtfmghkplafploaaPwN
set_option linter.unusedVariables false
set_option linter.unusedSimpArgs false
namespace Go.Proofs.Ytfmghkplafploaa
open Go Go.RowKit

/-- A slice of numbers in a block of the call's own (from base on), wherever in it. -/
structure OwF (w : World) (base : Nat) (A : Option Addr) (c n : Nat) (l : List Nat) : Prop where
  len : l.length = n
  le : n ≤ c
  cap : c ≤ maxLen
  at_ : (A = none ∧ n = 0 ∧ c = 0) ∨ ∃ g o cur, A = some ⟨g, o, none⟩ ∧ base ≤ g ∧ Bk w g 3 cur ∧ o + c ≤ cur.length ∧ ∀ j v, l[j]? = some v → w.cell? ⟨g, o + j, none⟩ = some (ni v)
section
variable {w w' : World} {base c n : Nat} {A : Option Addr} {l : List Nat}
theorem OwI.owF (h : OwI w base A c n l) : OwF w base A c n l := by
  have hl := h.len
  have hle := h.le
  rcases h.2 with ⟨h1, h2⟩ | ⟨g, cap, cur, h1, h2, h3, h4, h5, h6, h7⟩
  · simp only [Value.slice.injEq] at h1
    obtain ⟨rfl, _, rfl⟩ := h1
    exact ⟨hl, hle, by simp [maxLen], .inl ⟨rfl, h2, rfl⟩⟩
  · simp only [Value.slice.injEq, true_and] at h1
    obtain ⟨rfl, rfl⟩ := h1
    refine ⟨hl, hle, h5, .inr ⟨g, 0, cur.toList, rfl, h2, by unfold Bk; rw [Array.toArray_toList]; exact h3, by rw [Array.length_toList]; omega, fun j v hv => ?_⟩⟩
    rw [Nat.zero_add, cell_of_row w g j cur 3 (0, 0) h3, ← Array.getElem?_toList]
    have h8 : (cur.toList.take (n * 1))[j]? = some (ni v) := by rw [h7, List.getElem?_map, hv]; rfl
    rw [List.getElem?_take] at h8
    split at h8
    · exact h8
    · cases h8
theorem OwF.low (h : OwF w base A c n l) {k : Nat} (hk : blockOf A = some k) : base ≤ k ∧ k < w.heap.size := by
  rcases h.at_ with ⟨rfl, _⟩ | ⟨g, o, cur, rfl, h1, h2, _, _⟩
  · cases hk
  · cases hk
    exact ⟨h1, h2.lt⟩
theorem OwF.keep {G : Nat → Prop} (h : OwF w base A c n l) (T : Turn G w w') (hn : ∀ k, blockOf A = some k → ¬ G k) : OwF w' base A c n l := by
  refine ⟨h.len, h.le, h.cap, ?_⟩
  rcases h.at_ with h0 | ⟨g, o, cur, rfl, h1, h2, h3, h4⟩
  · exact .inl h0
  · exact .inr ⟨g, o, cur, rfl, h1, T.bk h2 (hn g rfl), h3, fun j v hv => (T.cell (p := ⟨g, o + j, none⟩) h2.lt (hn g rfl)).trans (h4 j v hv)⟩
theorem OwF.some_ (h : OwF w base A c n l) (hn : 0 < n) : ∃ g o, A = some ⟨g, o, none⟩ ∧ base ≤ g ∧ g < w.heap.size ∧ (∀ j v, l[j]? = some v → w.cell? ⟨g, o + j, none⟩ = some (ni v)) := by
  rcases h.at_ with ⟨_, h0, _⟩ | ⟨g, o, cur, rfl, h1, h2, h3, h4⟩
  · omega
  · exact ⟨g, o, rfl, h1, h2.lt, h4⟩
/-- Cut by its first. -/
theorem OwF.tail {x : Nat} (h : OwF w base A c (n + 1) (x :: l)) : ∃ g o, A = some ⟨g, o, none⟩ ∧ w.cell? ⟨g, o, none⟩ = some (ni x) ∧ OwF w base (some ⟨g, if c = 1 then o else o + 1, none⟩) (c - 1) n l := by
  rcases h.at_ with ⟨_, h0, _⟩ | ⟨g, o, cur, rfl, h1, h2, h3, h4⟩
  · omega
  · have h5 := h.le
    have h6 := h.cap
    have h7 := h.len
    refine ⟨g, o, rfl, h4 0 x rfl, ⟨by simpa using h7, by omega, by omega, .inr ⟨g, _, cur, rfl, h1, h2, ?_, fun j v hv => ?_⟩⟩⟩
    · split <;> omega
    · have hj : j < l.length := (List.getElem?_eq_some_iff.1 hv).1
      simp only [List.length_cons] at h7
      rw [if_neg (by omega)]
      have := h4 (j + 1) v (by rw [List.getElem?_cons_succ]; exact hv)
      rw [show o + 1 + j = o + (j + 1) by omega]
      exact this
end
/-! ### Cells of a block, set one by one -/
theorem bk_setCells {g : Nat} {t : TypeId} : ∀ (vs : List Value) (o : Nat) (w : World) (cur : List Value), Bk w g t cur → ∃ cur', Bk (w.setCells g o vs) g t cur' ∧ cur'.length = cur.length
  | [], _, w, cur, h => ⟨cur, h, rfl⟩
  | v :: r, o, w, cur, h => by
    obtain ⟨cur', h1, h2⟩ := bk_setCells r (o + 1) (w.setCell ⟨g, o, none⟩ v) _ (h.set_ o v)
    exact ⟨cur', h1, by rw [h2, List.length_set]⟩
theorem turn_setCells {g : Nat} : ∀ (vs : List Value) (o : Nat) (w : World), Turn (fun k => k = g) w (w.setCells g o vs)
  | [], _, w => Turn.refl _ _
  | v :: r, o, w => ((Turn.refl (fun k => k = g) w).setCell (p := ⟨g, o, none⟩) (fun _ => rfl) v).trans (turn_setCells r (o + 1) _)
theorem bk_some {w : World} {g : Nat} {t : TypeId} {cur : List Value} (h : Bk w g t cur) {i : Nat} (hi : i < cur.length) : (w.cell? ⟨g, i, none⟩).isSome = true := by
  rw [h.cell, List.getElem?_eq_getElem hi]; rfl
/-- One more in between. -/
def ins (l : List Nat) (k v : Nat) : List Nat := l.take k ++ v :: l.drop k
theorem ins_len {l : List Nat} {k v : Nat} (hk : k ≤ l.length) : (ins l k v).length = l.length + 1 := by
  unfold ins
  rw [List.length_append, List.length_cons, List.length_take, List.length_drop]
  omega
theorem ins_at {l : List Nat} {k v : Nat} (hk : k ≤ l.length) {j x : Nat} (h : (ins l k v)[j]? = some x) : (j < k ∧ l[j]? = some x) ∨ (j = k ∧ x = v) ∨ (k < j ∧ (l.drop k)[j - (k + 1)]? = some x) := by
  unfold ins at h
  have hl : (l.take k).length = k := by rw [List.length_take]; omega
  rcases Nat.lt_trichotomy j k with g | g | g
  · rw [List.getElem?_append_left (by omega), List.getElem?_take_of_lt g] at h
    exact .inl ⟨g, h⟩
  · subst g
    rw [List.getElem?_append_right (by omega), hl, Nat.sub_self] at h
    exact .inr (.inl ⟨rfl, by simpa using h.symm⟩)
  · rw [List.getElem?_append_right (by omega), hl] at h
    obtain ⟨m, hm⟩ : ∃ m, j - k = m + 1 := ⟨j - k - 1, by omega⟩
    rw [hm, List.getElem?_cons_succ] at h
    exact .inr (.inr ⟨g, by rw [show j - (k + 1) = m by omega]; exact h⟩)
theorem insert_any (w : World) (base : Nat) (A : Option Addr) (c n : Nat) (l : List Nat) (h : OwF w base A c n l) (k : Nat) (hk : k ≤ n) (hn : n ≤ 1000000) (vb v : Nat) (hv : Bk w vb 3 [ni v]) (hvA : blockOf A ≠ some vb) (hbase : base ≤ w.heap.size) :
    Calls Try.prog 37 #[.slice A n c, .int .i64 (k : Int), .slice (some ⟨vb, 0, none⟩) 1 1] w fun e w' => ∃ A' c', e = .returned (.slice A' (n + 1) c') ∧ OwF w' base A' c' (n + 1) (ins l k v) ∧
      Turn (fun x => blockOf A = some x) w w' ∧ (blockOf A' = blockOf A ∨ ∃ x, blockOf A' = some x ∧ w.heap.size ≤ x) := by
  have hlen := h.len
  have hle := h.le
  have hcap := h.cap
  have hvs : ∀ j u, [ni v][j]? = some u → w.cell? ⟨vb, 0 + j, none⟩ = some u := fun j u hu => by rw [Nat.zero_add, hv.cell]; exact hu
  have h1v : ∀ u ∈ [ni v], u.oneCell' = true := ni_one [v]
  have hlcs : (l.map ni).length = n := by simp [hlen]
  have hcap63 : c ≤ 9223372036854775807 := by simp only [maxLen] at hcap; omega
  by_cases hkn : k = n
  · subst hkn
    have hins : ins l k v = l ++ [v] := by unfold ins; rw [← hlen, List.take_length, List.drop_length]
    rw [hins]
    by_cases hroom : k + 1 ≤ c
    · rcases h.at_ with ⟨hA, _, hc0⟩ | ⟨g, o, cur, rfl, h1, h2, h3, h4⟩
      · omega
      · refine (Any2.slices_Insert_int_end_room laysNm221 g o k c vb 0 1 1 [ni v] w (by omega) hroom hcap63 rfl (fun j hj => bk_some h2 (by omega)) (fun j _ => h2.frozen _) hvs h1v).mono ?_
        rintro e w' ⟨rfl, rfl⟩
        obtain ⟨cur', hb', hl'⟩ := bk_setCells [ni v] (o + k) w cur h2
        refine ⟨some ⟨g, o, none⟩, c, rfl, ⟨by simp [hlen], hroom, hcap, .inr ⟨g, o, cur', rfl, h1, hb', by omega, fun j x hx => ?_⟩⟩, (turn_setCells _ _ _).mono fun x _ e => by rw [e]; rfl, .inl rfl⟩
        by_cases hj : j < k
        · rw [List.getElem?_append_left (by omega)] at hx
          rw [World.cell?_setCells_out g [ni v] (o + k) w ⟨g, o + j, none⟩ (fun _ _ => .inl (by show o + j < o + k; omega))]
          exact h4 j x hx
        · have hlt := (List.getElem?_eq_some_iff.1 hx).1
          simp only [List.length_append, List.length_singleton, hlen] at hlt
          obtain rfl : j = k := by omega
          rw [List.getElem?_append_right (by omega), hlen, Nat.sub_self] at hx
          simp only [List.getElem?_cons_zero, Option.some.injEq] at hx
          subst hx
          have := World.cell?_setCells_in g [ni v] (o + j) w (fun i hi => by
            have : i = 0 := by simpa using hi
            subst this
            exact bk_some h2 (by omega)) 0 (by simp)
          rw [Nat.add_zero] at this
          exact this
    · refine (Any2.slices_Insert_int_end_grow laysNm221 A k c vb 0 1 1 (l.map ni) [ni v] w (by omega) hle (by omega) (by omega) hlcs rfl (fun e => by
        rcases h.at_ with ⟨_, h0, _⟩ | ⟨g, o, cur, e2, _⟩
        · exact h0
        · rw [e] at e2; cases e2) (fun a ha j u hu => by
        rcases h.at_ with ⟨e2, _⟩ | ⟨g, o, cur, e2, h1, h2, h3, h4⟩
        · rw [e2] at ha; cases ha
        · rw [e2] at ha
          obtain rfl := Option.some.inj ha
          rw [addPlain]
          rw [List.getElem?_map] at hu
          cases hj : l[j]? with
          | none => rw [hj] at hu; cases hu
          | some x =>
            rw [hj] at hu
            obtain rfl := Option.some.inj hu
            exact h4 j x hj) hvs h1v).mono ?_
      rintro e w' ⟨rfl, rfl⟩
      have hgc := grownCap_ge w (k + 1) c 3
      have hgm := grownCap_le_maxLen w (k + 1) c 3 (by simp only [maxLen]; omega)
      obtain ⟨G, hG⟩ : ∃ G, G = grownCap w (k + 1) c 3 := ⟨_, rfl⟩
      have hb := Bk.new w.drew 3 (l.map ni ++ [ni v] ++ (Builtin.zeroCells (Value.int .i64 0).cells (G - (k + 1))).toList)
      have harr : (l.map ni ++ [ni v] ++ (Builtin.zeroCells (Value.int .i64 0).cells (G - (k + 1))).toList).toArray = (l.map ni ++ [ni v]).toArray ++ Builtin.zeroCells (Value.int .i64 0).cells (G - (k + 1)) := by simp
      rw [harr] at hb
      have hsz : (Builtin.zeroCells (Value.int .i64 0).cells (G - (k + 1))).toList.length = G - (k + 1) := by
        rw [Array.length_toList, size_zeroCells]; simp [Value.cells]
      rw [hG] at hb hsz
      refine ⟨some ⟨w.heap.size, 0, none⟩, grownCap w (k + 1) c 3, rfl, ⟨by simp [hlen], hgc, hgm, .inr ⟨w.heap.size, 0, _, rfl, hbase, hb, ?_, fun j x hx => ?_⟩⟩, ?_, .inr ⟨w.heap.size, rfl, Nat.le_refl _⟩⟩
      · rw [List.length_append, hsz, List.length_append, hlcs]
        simp only [List.length_singleton]
        omega
      · rw [Nat.zero_add]
        have hjl := (List.getElem?_eq_some_iff.1 hx).1
        refine (hb.cell j).trans ?_
        rw [List.getElem?_append_left (by simp at hjl ⊢; omega)]
        have : l.map ni ++ [ni v] = (l ++ [v]).map ni := by simp
        rw [this, List.getElem?_map, hx]; rfl
      · exact Turn.ofBelow ((belowDrews (Below.refl _ w) 1).alloc (Nat.le_refl _) _)
  · have hkl : k < n := by omega
    rcases h.at_ with ⟨_, h0, _⟩ | ⟨g, o, cur, rfl, h1, h2, h3, h4⟩
    · omega
    have hcs : ∀ j u, (l.map ni)[j]? = some u → w.cell? ⟨g, o + j, none⟩ = some u := fun j u hu => by
      rw [List.getElem?_map] at hu
      cases hj : l[j]? with
      | none => rw [hj] at hu; cases hu
      | some x =>
        rw [hj] at hu
        obtain rfl := Option.some.inj hu
        exact h4 j x hj
    have hvg : vb ≠ g := fun e => hvA (by rw [e]; rfl)
    have hdrop : ((l.map ni).drop k).length = n - k := by rw [List.length_drop, hlcs]
    by_cases hroom : n + 1 ≤ c
    · refine (Any2.slices_Insert_int_shift laysNm221 g o n c k vb 0 1 1 (l.map ni) [ni v] w hkl (by omega) hroom hcap63 hvg hlcs rfl hcs (fun j hj => bk_some h2 (by omega)) (fun j _ => h2.frozen _) hvs (ni_one l) h1v 3 3 1 cur.length
        (by unfold World.shape?; rw [show w.heap[vb]? = some (.cells [ni v].toArray 3 (0, 0)) from hv]; rfl) (by unfold World.shape?; rw [show w.heap[g]? = some (.cells cur.toArray 3 (0, 0)) from h2]; simp) (by omega) (hv.frozen _) (hv.frozen _)).mono ?_
      rintro e w' ⟨rfl, rfl⟩
      have h2d : Bk w.drew g 3 cur := h2
      obtain ⟨cur1, hb1, hl1⟩ := bk_setCells ((l.map ni).drop k) (o + (k + 1)) w.drew cur h2d
      obtain ⟨cur2, hb2, hl2⟩ := bk_setCells [ni v] (o + k) _ cur1 hb1
      refine ⟨some ⟨g, o, none⟩, c, rfl, ⟨by rw [ins_len (by omega)]; omega, hroom, hcap, .inr ⟨g, o, cur2, rfl, h1, hb2, by omega, fun j x hx => ?_⟩⟩, ?_, .inl rfl⟩
      · rcases ins_at (by omega) hx with ⟨hj, hx⟩ | ⟨rfl, rfl⟩ | ⟨hj, hx⟩
        · rw [World.cell?_setCells_out g [ni v] (o + k) _ ⟨g, o + j, none⟩ (fun _ _ => .inl (by show o + j < o + k; omega)), World.cell?_setCells_out g _ (o + (k + 1)) _ ⟨g, o + j, none⟩ (fun _ _ => .inl (by show o + j < o + (k + 1); omega))]
          exact h4 j x hx
        · have := World.cell?_setCells_in g [ni x] (o + j) (w.drew.setCells g (o + (j + 1)) ((l.map ni).drop j)) (fun i hi => by
            have : i = 0 := by simpa using hi
            subst this
            exact bk_some hb1 (by omega)) 0 (by simp)
          rw [Nat.add_zero] at this
          exact this
        · have hjl := (List.getElem?_eq_some_iff.1 hx).1
          rw [List.length_drop] at hjl
          rw [World.cell?_setCells_out g [ni v] (o + k) _ ⟨g, o + j, none⟩ (fun _ _ => .inr (by show o + k + 1 ≤ o + j; omega))]
          have := World.cell?_setCells_in g ((l.map ni).drop k) (o + (k + 1)) w.drew (fun i hi => by
            rw [hdrop] at hi
            exact bk_some h2d (by omega)) (j - (k + 1)) (by rw [hdrop]; omega)
          rw [show o + (k + 1) + (j - (k + 1)) = o + j by omega] at this
          rw [this]
          have h9 : ((l.map ni).drop k)[j - (k + 1)]? = some (ni x) := by rw [← List.map_drop, List.getElem?_map, hx]; rfl
          rw [List.getElem?_eq_getElem (by rw [hdrop]; omega)] at h9
          exact h9
      · refine (((Turn.refl (fun k => k = g) w).drew.trans (turn_setCells _ _ _)).trans (turn_setCells _ _ _)).mono fun x _ e => ?_
        rw [e]; rfl
    · refine (Any2.slices_Insert_int_grow laysNm221 g o n c k vb 0 1 1 (l.map ni) [ni v] w hkl (by omega) hle (by omega) (by omega) hlcs rfl hcs hvs (ni_one l) h1v).mono ?_
      rintro e w' ⟨rfl, rfl⟩
      have hgc := grownCap_ge w (n + 1) c 3
      have hgm := grownCap_le_maxLen w (n + 1) c 3 (by simp only [maxLen]; omega)
      obtain ⟨G, hG⟩ : ∃ G, G = grownCap w (n + 1) c 3 := ⟨_, rfl⟩
      have hGe : (laysNm221_ren.t 3) = 3 := rfl
      rw [hGe]
      rw [← hG] at hgc hgm ⊢
      have hz1 : ∀ m, (Builtin.zeroCells (Value.int .i64 0).cells m).toList.length = m := fun m => by
        rw [Array.length_toList, size_zeroCells]; simp [Value.cells]
      obtain ⟨row, hrow⟩ : ∃ row : List Value, row = (l.map ni).take k ++ (Builtin.zeroCells (Value.int .i64 0).cells (n + 1 - k)).toList ++ (Builtin.zeroCells (Value.int .i64 0).cells (G - (n + 1))).toList := ⟨_, rfl⟩
      have harr : row.toArray = ((l.map ni).take k).toArray ++ Builtin.zeroCells (Value.int .i64 0).cells (n + 1 - k) ++ Builtin.zeroCells (Value.int .i64 0).cells (G - (n + 1)) := by rw [hrow]; simp
      have hrl : row.length = G := by
        rw [hrow, List.length_append, List.length_append, hz1, hz1, List.length_take, hlcs]
        omega
      rw [← harr]
      have hb0 := Bk.new w 3 row
      have hb0d : Bk (w.alloc (.cells row.toArray 3)).drew w.heap.size 3 row := hb0
      obtain ⟨cur1, hb1, hl1⟩ := bk_setCells [ni v] k _ row hb0d
      have hb1d : Bk ((w.alloc (.cells row.toArray 3)).drew.setCells w.heap.size k [ni v]).drew w.heap.size 3 cur1 := hb1
      obtain ⟨cur2, hb2, hl2⟩ := bk_setCells ((l.map ni).drop k) (k + 1) _ cur1 hb1d
      refine ⟨some ⟨w.heap.size, 0, none⟩, G, rfl, ⟨by rw [ins_len (by omega)]; omega, hgc, hgm, .inr ⟨w.heap.size, 0, cur2, rfl, hbase, hb2, by omega, fun j x hx => ?_⟩⟩, ?_, .inr ⟨w.heap.size, rfl, Nat.le_refl _⟩⟩
      · rw [Nat.zero_add]
        rcases ins_at (by omega) hx with ⟨hj, hx⟩ | ⟨rfl, rfl⟩ | ⟨hj, hx⟩
        · rw [World.cell?_setCells_out w.heap.size _ (k + 1) _ ⟨w.heap.size, j, none⟩ (fun _ _ => .inl (by show j < k + 1; omega))]
          refine (show ((w.alloc (.cells row.toArray 3)).drew.setCells w.heap.size k [ni v]).cell? ⟨w.heap.size, j, none⟩ = some (ni x) from ?_)
          rw [World.cell?_setCells_out w.heap.size [ni v] k _ ⟨w.heap.size, j, none⟩ (fun _ _ => .inl (by show j < k; omega))]
          refine (hb0d.cell j).trans ?_
          rw [hrow, List.append_assoc, List.getElem?_append_left (by rw [List.length_take, hlcs]; omega), List.getElem?_take_of_lt hj, List.getElem?_map, hx]; rfl
        · rw [World.cell?_setCells_out w.heap.size _ (j + 1) _ ⟨w.heap.size, j, none⟩ (fun _ _ => .inl (by show j < j + 1; omega))]
          refine (show ((w.alloc (.cells row.toArray 3)).drew.setCells w.heap.size j [ni x]).cell? ⟨w.heap.size, j, none⟩ = some (ni x) from ?_)
          have := World.cell?_setCells_in w.heap.size [ni x] j (w.alloc (.cells row.toArray 3)).drew (fun i hi => by
            have : i = 0 := by simpa using hi
            subst this
            exact bk_some hb0d (by omega)) 0 (by simp)
          rw [Nat.add_zero] at this
          exact this
        · have hjl := (List.getElem?_eq_some_iff.1 hx).1
          rw [List.length_drop] at hjl
          have := World.cell?_setCells_in w.heap.size ((l.map ni).drop k) (k + 1) _ (fun i hi => by
            rw [hdrop] at hi
            exact bk_some hb1d (by omega)) (j - (k + 1)) (by rw [hdrop]; omega)
          rw [show k + 1 + (j - (k + 1)) = j by omega] at this
          rw [this]
          have h9 : ((l.map ni).drop k)[j - (k + 1)]? = some (ni x) := by rw [← List.map_drop, List.getElem?_map, hx]; rfl
          rw [List.getElem?_eq_getElem (by rw [hdrop]; omega)] at h9
          exact h9
      · have hb : Below w.heap.size w ((w.alloc (.cells row.toArray 3)).drew) := ((Below.refl _ w).alloc (Nat.le_refl _) _).drew
        have h1 := turn_setCells (g := w.heap.size) [ni v] k (w.alloc (.cells row.toArray 3)).drew
        have h2' := turn_setCells (g := w.heap.size) ((l.map ni).drop k) (k + 1) ((w.alloc (.cells row.toArray 3)).drew.setCells w.heap.size k [ni v]).drew
        refine ((Turn.ofBelow (G := fun x => blockOf (some ⟨g, o, none⟩) = some x) hb).then_ h1 (fun x hx e => by omega)).drew.then_ h2' (fun x hx e => by omega)
/-- Where a number that is not there would come in a row that rises. -/
theorem search_any (w : World) (base : Nat) (A : Option Addr) (c n : Nat) (l : List Nat) (h : OwF w base A c n l) (hs : l.Pairwise (· < ·)) (hn : n ≤ 1000000) (x : Nat) (hx : x ∉ l) :
    Calls Try.prog 36 #[.slice A n c, ni x] w fun e w' => ∃ k b, e = .returned (.tuple #[.int .i64 ((k : Nat) : Int), .bool b]) ∧ k ≤ n ∧ (∀ y ∈ l.take k, y < x) ∧ (∀ y ∈ l.drop k, x < y) ∧ ∃ q, w' = w.drewN q := by
  have hlen := h.len
  by_cases h0 : n = 0
  · subst h0
    have hl : l = [] := List.eq_nil_of_length_eq_zero hlen
    subst hl
    refine (slices_BinarySearch_int_empty A c x w).mono ?_
    rintro e w' ⟨rfl, rfl⟩
    exact ⟨0, false, rfl, Nat.le_refl _, by simp, by simp, 0, rfl⟩
  · obtain ⟨g, o, rfl, _, _, hc⟩ := h.some_ (by omega)
    refine (slices_BinarySearch_int g o n c (l.map Int.ofNat) x w (by simp [hlen]) (by omega) (fun j hj => by
      obtain ⟨y, h1, h2⟩ := getD_map l hj
      rw [h2]
      exact hc j y h1) (by
      rw [List.take_of_length_le (by simp [hlen])]
      exact List.pairwise_map.2 (hs.imp fun {a b} k => by show (a : Int) ≤ (b : Int); omega))).mono ?_
    rintro e w' ⟨rfl, q, rfl⟩
    rw [List.take_of_length_le (by simp [hlen])]
    have hcnt : (l.map Int.ofNat).countP (fun y => decide (y < (x : Int))) = l.countP (fun y => decide (y < x)) := by
      rw [List.countP_map]
      refine List.countP_congr fun y _ => ?_
      show decide ((y : Int) < (x : Int)) = true ↔ _
      simp
    obtain ⟨k1, k2, k3⟩ := split_lt l hs x hx
    refine ⟨l.countP (fun y => decide (y < x)), _, by rw [hcnt], by rw [← hlen]; exact k1, k2, k3, q, rfl⟩
where
  split_lt : ∀ (l : List Nat), l.Pairwise (· < ·) → ∀ x, x ∉ l → l.countP (fun y => decide (y < x)) ≤ l.length ∧ (∀ y ∈ l.take (l.countP fun y => decide (y < x)), y < x) ∧ (∀ y ∈ l.drop (l.countP fun y => decide (y < x)), x < y)
    | [], _, x, _ => by simp
    | a :: l, hs, x, hx => by
      obtain ⟨h1, h2⟩ := List.pairwise_cons.1 hs
      simp only [List.mem_cons, not_or] at hx
      by_cases ha : a < x
      · obtain ⟨k1, k2, k3⟩ := split_lt l h2 x hx.2
        rw [List.countP_cons_of_pos (by simpa using ha)]
        refine ⟨by simp; omega, ?_, ?_⟩
        · intro y hy
          rw [List.take_succ_cons] at hy
          rcases List.mem_cons.1 hy with rfl | hy
          · exact ha
          · exact k2 y hy
        · intro y hy
          rw [List.drop_succ_cons] at hy
          exact k3 y hy
      · have hz : l.countP (fun y => decide (y < x)) = 0 := by
          rw [List.countP_eq_zero]
          intro y hy
          have := h1 y hy
          simp; omega
        rw [List.countP_cons_of_neg (by simpa using ha), hz]
        refine ⟨by omega, by simp, fun y hy => ?_⟩
        rw [List.drop_zero] at hy
        rcases List.mem_cons.1 hy with rfl | hy
        · omega
        · have := h1 y hy; omega
end Go.Proofs.Ytfmghkplafploaa

set_option linter.unusedVariables false
set_option linter.unusedSimpArgs false
namespace Go.Proofs.Ytfmghkplafploaa
open Go Go.RowKit

set_option maxRecDepth 100000 in
theorem wpList_slice1 {ops : Array Oper} {rest : List Oper} {o : Oper} {a : Act} {Q : Exit → Act → World → Prop} (w : World) (hgd : o.guard = none) (x : Operand)
    (ho : o.op = .slice 43 x (some (.const (.int .i64 1))) none none) (g of n c : Nat) (hx : a.eval x = .slice (some ⟨g, of, none⟩) (n + 1) c) (hle : n + 1 ≤ c)
    (h : wpList Try.prog ops Q rest (a.put o.dst (.slice (some ⟨g, if c = 1 then of else of + 1, none⟩) n (c - 1))) w) : wpList Try.prog ops Q (o :: rest) a w := by
  refine wpList_plain hgd fun K hK => ?_
  unfold Oper.wp execOp
  simp only [ho, hx]
  have h1 : (1 : Int) ≤ (c : Int) := by omega
  have h2 : (1 : Int) ≤ (n : Int) + 1 := by omega
  by_cases hc : c = 1
  · subst hc
    have hn : n = 0 := by omega
    subst hn
    rw [if_pos rfl] at h
    go_simp
    exact hK _ _ h
  · rw [if_neg hc] at h
    have h3 : ¬ (c : Int) = 1 := by omega
    go_simp
    exact hK _ _ h
def slv (P : List (List Nat)) (R : List (Nat × Nat)) (d : Nat) : Value := .slice (some ⟨(R.getD d (0, 0)).1, 0, none⟩) (P.getD d []).length (R.getD d (0, 0)).2
/-- What is turned while parts are told. -/
structure Kw (w2 : World) (gW k : Nat) (P : List (List Nat)) (R : List (Nat × Nat)) (wf : Nat → Nat) (D free : List Nat) (lA : Option Addr) (lc : Nat) (fA : Option Addr) (fc : Nat) (wr : World) : Prop where
  T : Turn (fun x => x = gW) w2 wr
  gl : gW < w2.heap.size
  waits : Bk wr gW 3 (fnC k wf)
  lown : wr.ownsRow w2.heap.size 43 1 (.slice lA D.length lc) D.length (D.map (slv P R))
  fown : OwF wr w2.heap.size fA fc free.length free
  ap : ∀ x, blockOf lA = some x → blockOf fA ≠ some x
section
variable {w2 wr wr' : World} {gW k : Nat} {P : List (List Nat)} {R : List (Nat × Nat)} {wf : Nat → Nat} {D free : List Nat} {lA fA : Option Addr} {lc fc : Nat}
theorem Kw.later (h : Kw w2 gW k P R wf D free lA lc fA fc wr) (hb : Below wr.heap.size wr wr') : Kw w2 gW k P R wf D free lA lc fA fc wr' :=
  ⟨h.T.then_ (Turn.ofBelow (G := fun x => x = gW) hb) fun _ _ e => e, h.gl, h.waits.later hb, ownBelow h.lown hb (Nat.le_refl _), h.fown.keep (G := fun _ => False) (Turn.ofBelow hb) (fun _ _ e => e), h.ap⟩
theorem Kw.setW (h : Kw w2 gW k P R wf D free lA lc fA fc wr) (i x : Nat) : Kw w2 gW k P R (upd wf i x) D free lA lc fA fc (wr.setCell ⟨gW, i, none⟩ (ni x)) := by
  have hT : Turn (fun x => x = gW) wr (wr.setCell ⟨gW, i, none⟩ (ni x)) := (Turn.refl (fun x => x = gW) wr).setCell (p := ⟨gW, i, none⟩) (fun _ => rfl) _
  have hg := h.gl
  refine ⟨h.T.then_ hT fun _ _ e => e, hg, ?_, turn_own hT h.lown fun y hy e => ?_, h.fown.keep hT fun y hy e => ?_, h.ap⟩
  · rw [← fnC_set]; exact h.waits.set_ _ _
  · have := (own_low h.lown hy).1; omega
  · have := (h.fown.low hy).1; omega
/-- The list of those that are free was taken another way. -/
theorem Kw.free_ {free' : List Nat} {fA' : Option Addr} {fc' : Nat} (h : Kw w2 gW k P R wf D free lA lc fA fc wr) (T : Turn (fun x => blockOf fA = some x) wr wr') (hf : OwF wr' w2.heap.size fA' fc' free'.length free') (hb : blockOf fA' = blockOf fA ∨ ∃ x, blockOf fA' = some x ∧ wr.heap.size ≤ x) :
    Kw w2 gW k P R wf D free' lA lc fA' fc' wr' := by
  have hg := h.gl
  have hl : ∀ x, blockOf fA = some x → w2.heap.size ≤ x := fun x hx => (h.fown.low hx).1
  refine ⟨h.T.then_ T fun x hx e => by have := hl x e; omega, hg, T.bk h.waits fun e => by have := hl _ e; omega, turn_own T h.lown fun x hx e => h.ap x hx e, hf, fun x hx e => ?_⟩
  rcases hb with q | ⟨y, q, hy⟩
  · exact h.ap x hx (q ▸ e)
  · rw [q] at e
    have := Option.some.inj e
    have := (own_low h.lown hx).2
    omega
/-- One more is told. -/
theorem Kw.told_ {lA' : Option Addr} {lc' d : Nat} (h : Kw w2 gW k P R wf D free lA lc fA fc wr) (T : Turn (fun x => blockOf lA = some x) wr wr') (hl : wr'.ownsRow w2.heap.size 43 1 (.slice lA' (D.length + 1) lc') (D.length + 1) (D.map (slv P R) ++ [slv P R d])) (hb : blockOf lA' = blockOf lA ∨ ∃ x, blockOf lA' = some x ∧ wr.heap.size ≤ x) :
    Kw w2 gW k P R wf (D ++ [d]) free lA' lc' fA fc wr' := by
  have hg := h.gl
  have hlo : ∀ x, blockOf lA = some x → w2.heap.size ≤ x := fun x hx => (own_low h.lown hx).1
  refine ⟨h.T.then_ T fun x hx e => by have := hlo x e; omega, hg, T.bk h.waits fun e => by have := hlo _ e; omega, ?_, h.fown.keep T fun x hx e => h.ap x e hx, fun x hx e => ?_⟩
  · rw [List.length_append, List.map_append]; exact hl
  · rcases hb with q | ⟨y, q, hy⟩
    · exact h.ap x (q ▸ hx) e
    · rw [q] at hx
      have := Option.some.inj hx
      have := (h.fown.low e).2
      omega
end
theorem Ki.free_len {n : Nat} {E : List (Nat × Nat)} {Q : List (List Nat)} {D free rest : List Nat} {w : Nat → Nat} (h : Ki n E Q D w free rest) : free.length ≤ Q.length :=
  nodup_below _ _ (h.sorted.imp fun {a b} k e => by subst e; omega) fun x hx => ((h.free x).1 hx).1
theorem Ki.told_len {n : Nat} {E : List (Nat × Nat)} {Q : List (List Nat)} {D free rest : List Nat} {w : Nat → Nat} (h : Ki n E Q D w free rest) : D.length ≤ Q.length := nodup_below _ _ h.nodup h.lt
theorem told_snoc (Q : List (List Nat)) (D : List Nat) (j : Nat) : told Q (D ++ [j]) = told Q D ++ [Q.getD j []] := by unfold told; rw [List.map_append]; rfl
set_option maxRecDepth 100000 in
set_option maxHeartbeats 8000000 in
theorem inOrder_any (w : World) (n base : Nat) (E : List (Nat × Nat)) (Ae : Option Addr) (ne ce : Nat) (hr : RdE w base Ae ne (ei E)) (hE : In n E) (hn : n ≤ 4096) (hne : ne ≤ 16384) (hbase : base ≤ w.heap.size)
    (A : Option Addr) (c : Nat) (P0 : List (List Nat)) (R0 : List (Nat × Nat)) (hp : PR w base A c P0 R0) (hI : IsParts n E P0) :
    Calls Try.prog 23 #[ni n, .slice Ae ne ce, .slice A P0.length c] w fun e w' => ∃ A' c' L R', e = .returned (.slice A' L.length c') ∧ RdP w' w'.heap.size A' L R' ∧ Order n E [] L ∧ L.length ≤ 4096 ∧ Turn (fun x => blockOf A = some x) w w' := by
  have hsort := sortParts_any w base c n E A P0 R0 hp hI hn
  have HLO := Lib.hid (show ∀ x, blockOf A = some x → base ≤ x from fun x hx => (own_low hp.own hx).1)
  obtain ⟨k, hk⟩ : ∃ k, k = P0.length := ⟨_, rfl⟩
  rw [← hk] at hsort ⊢
  have hkn : k ≤ n := by rw [hk]; exact hI.len_le
  have HK0 := Lib.hid hk
  have HR := Lib.hid hr
  have HE := Lib.hid hE
  have HI0 := Lib.hid hI
  have HLEN := Lib.hid (show E.length = ne by rw [← ei_len]; exact hr.len)
  clear hr hE hp hI hk
  go_enter Try.func23, Try.ntmps23
  repeat (first | go_skip | go_guarded | go_step)
  refine hsort.mono ?_
  rintro e w1 ⟨rfl, P, R, hperm, hhd, hrp, hT1⟩
  have HI := Lib.hid (HI0.out.perm hperm)
  have HK := Lib.hid (show k = P.length by rw [HK0.out, hperm.length_eq])
  have HHD := Lib.hid hhd
  have HRP := Lib.hid hrp
  have HT1 := Lib.hid hT1
  have hs1 := hT1.size
  have HR1 := Lib.hid ((HR.out.below (hT1.below (B := base) (fun x _ e => HLO.out x e) hbase)).more (show base ≤ w1.heap.size by omega))
  clear hperm hhd hrp hT1 hsort HI0 HK0
  dsimp only
  repeat (first | go_skip | go_guarded | go_step)
  refine (between_any w1 n E Ae ne ce HR1.out HE.out hn hne A k c P R HRP.out HI.out HK.out).mono ?_
  rintro e w2 ⟨gW, gF, gA, gc, glv, rfl, hbW, hgW, hgF, hWF, ⟨bs, hbs, hRR⟩, hb2⟩
  have HBW := Lib.hid hbW
  have HGW := Lib.hid hgW
  have HGF := Lib.hid hgF
  have HWF := Lib.hid hWF
  have HBS := Lib.hid hbs
  have HRR := Lib.hid hRR
  have HB2 := Lib.hid hb2
  clear hbW hgW hgF hWF hbs hRR hb2 hs1
  dsimp only
  repeat (first | go_skip | go_guarded | go_step)
  go_loopw [28, 9] (fun q f wr => ∃ (j : Nat) (fA : Option Addr) (fc : Nat), j ≤ k ∧ q = .int .i64 (j : Int) ∧ f = .slice fA ((List.range j).filter fun i => decide (out P E [] i = 0)).length fc ∧ OwI wr w2.heap.size fA fc ((List.range j).filter fun i => decide (out P E [] i = 0)).length ((List.range j).filter fun i => decide (out P E [] i = 0)) ∧ Below w2.heap.size w2 wr) (fun q _ _ => k - (intOf q).toNat)
  case atStart => exact ⟨0, none, 0, by omega, rfl, rfl, OwI.nil _ _, Below.refl _ _⟩
  case round =>
    rename World => wr
    obtain ⟨j, fA, fc, hj, rfl, rfl, hof, hbw⟩ := hrel
    obtain ⟨fl, hfl⟩ : ∃ fl, fl = ((List.range j).filter fun i => decide (out P E [] i = 0)).length := ⟨_, rfl⟩
    rw [← hfl] at hof ⊢
    have hflk : fl ≤ j := by
      rw [hfl]
      have := List.length_filter_le (fun i => decide (out P E [] i = 0)) (List.range j)
      rwa [List.length_range] at this
    have HFL := Lib.hid hfl
    have HOF := Lib.hid hof
    have HBR := Lib.hid hbw
    clear hof hbw hfl
    by_cases hlt : j < k
    · have hji : (j : Int) < (k : Int) := by omega
      have cw : wr.cell? ⟨gW, j, none⟩ = some (ni (out P E [] j)) := ((HBW.out.later HBR.out).cell j).trans (fnC_at _ hlt)
      obtain ⟨ov, hov⟩ : ∃ ov, ov = out P E [] j := ⟨_, rfl⟩
      rw [← hov] at cw
      have HOV := Lib.hid hov
      clear hov
      by_cases h0 : ov = 0
      · subst h0
        have cw0 : wr.cell? ⟨gW, j, none⟩ = some (.int .i64 0) := cw
        clear cw
        have hlit := run_litI (j : Int) wr
        have hZ0 : Below wr.heap.size wr (wr.alloc (.cells #[.int .i64 (j : Int)] 3)) := (Below.refl _ _).alloc (Nat.le_refl _) _
        have HOZ := Lib.hid (show OwI (wr.alloc (.cells #[.int .i64 (j : Int)] 3)) w2.heap.size fA fc fl _ from ownBelow HOF.out hZ0 (Nat.le_refl _))
        have HZ0 := Lib.hid (HBR.out.trans (hZ0.mono HBR.out.size))
        have hbz : w2.heap.size ≤ (wr.alloc (.cells #[.int .i64 (j : Int)] 3)).heap.size := HZ0.out.size
        clear hZ0
        repeat (first
          | (at_builtin; refine appI _ rfl (.tmp 35) (.tmp 37) rfl w2.heap.size fA fc fl _ rfl HOZ.out _ _ 1 1 [j] rfl (litI_rd j wr) (by omega) hbz ?_
             intro A3 c3 Z hoZ htZ hfZ
             have HO3 := Lib.hid hoZ
             have HB3 := Lib.hid (HZ0.out.trans (htZ.below (B := w2.heap.size) (fun x _ e => (own_low HOZ.out e).1) hbz))
             clear hoZ htZ hfZ hlit cw0)
          | go_skip | go_guarded | go_step)
        have hsn : (List.range (j + 1)).filter (fun i => decide (out P E [] i = 0)) = (List.range j).filter (fun i => decide (out P E [] i = 0)) ++ [j] := by
          rw [List.range_succ, List.filter_append]
          congr 1
          simp [← HOV.out]
        go_roundw
        case rel => exact ⟨j + 1, A3, c3, by omega, by go_num, by rw [hsn, List.length_append, ← HFL.out]; rfl, by rw [hsn, List.length_append, ← HFL.out]; exact HO3.out, HB3.out⟩
        case measure => simp [intOf]; omega
      · have hne0 : ((ov : Int) == 0) = false := by simp; omega
        have hne1 : ¬ (ov : Int) = 0 := by omega
        repeat (first | go_skip | go_guarded | go_step)
        have hsn : (List.range (j + 1)).filter (fun i => decide (out P E [] i = 0)) = (List.range j).filter (fun i => decide (out P E [] i = 0)) := by
          rw [List.range_succ, List.filter_append]
          have : ([j] : List Nat).filter (fun i => decide (out P E [] i = 0)) = [] := by simp [← HOV.out, h0]
          rw [this, List.append_nil]
        go_roundw
        case rel => exact ⟨j + 1, fA, fc, by omega, by go_num, by rw [hsn, ← HFL.out], by rw [hsn, ← HFL.out]; exact HOF.out, HBR.out⟩
        case measure => simp [intOf]; omega
    · obtain rfl : j = k := by omega
      have hji : ¬ (j : Int) < (j : Int) := by omega
      have HKI := Lib.hid (show Ki n E P [] (out P E []) ((List.range j).filter fun i => decide (out P E [] i = 0)) [] by
        have := Ki.start n E P
        rw [← HK.out] at this
        exact this)
      have hgl := HBW.out.lt
      have HKW := Lib.hid (show Kw w2 gW j P R (out P E []) [] ((List.range j).filter fun i => decide (out P E [] i = 0)) none 0 fA fc wr from
        ⟨Turn.ofBelow HBR.out, hgl, HBW.out.later HBR.out, World.ownsRow_nil _ _ _ _, by rw [← HFL.out]; exact HOF.out.owF, fun x hx => absurd hx (by simp [blockOf])⟩)
      clear HOF hgl
      repeat (first | go_skip | go_guarded | go_step)
      go_loopg [6, 9] j (fun g lv fv w3 => ∃ (D free : List Nat) (wf : Nat → Nat) (lA fA : Option Addr) (lc fc : Nat), D.length + g = j ∧ lv = .slice lA D.length lc ∧ fv = .slice fA free.length fc ∧ Ki n E P D wf free [] ∧ Kw w2 gW j P R wf D free lA lc fA fc w3 ∧ ∀ L', Order n E (told P D).flatten L' → Order n E [] (told P D ++ L'))
      case atStart => exact ⟨[], _, _, none, fA, 0, fc, by simp, rfl, by rw [HFL.out], HKI.out, HKW.out, fun L' h => by simpa [told] using h⟩
      case round =>
        obtain ⟨G, rfl⟩ : ∃ G, G = gk := ⟨_, rfl⟩
        rename World => w3
        obtain ⟨D, free, wf, lA, fA, lc, fc, hDg, rfl, rfl, hki, hkw, hord⟩ := hrel
        have HDG := Lib.hid hDg
        have HKI := Lib.hid hki
        have HKW := Lib.hid hkw
        have HORD := Lib.hid hord
        have hDl : D.length ≤ j := by rw [HK.out]; exact hki.told_len
        obtain ⟨dl, hdl⟩ : ∃ dl, dl = D.length := ⟨_, rfl⟩
        rw [← hdl] at hDl ⊢
        have HDL := Lib.hid hdl
        clear hDg hki hkw hord hdl
        cases free with
        | nil =>
          repeat (first | go_skip | go_guarded | go_step)
          go_ret
          have hlown := HKW.out.lown
          have hlt := HKI.out.lt
          have hfin := HORD.out [] (.done (HKI.out.none_left HI.out HE.out))
          rw [List.append_nil] at hfin
          have hlen : (told P D).length = D.length := by unfold told; rw [List.length_map]
          have T3 : Turn (fun x => blockOf A = some x) w w3 := by
            refine HT1.out.then_ ((Turn.ofBelow (G := fun x => x = gW) HB2.out).trans HKW.out.T) (fun x hx e => ?_)
            have := HGW.out
            have := HT1.out.size
            omega
          refine ⟨lA, lc, told P D, D.map fun d => R.getD d (0, 0), by rw [hlen, HDL.out]; rfl, ⟨by rw [List.length_map, hlen], ?_, ?_⟩, hfin, by rw [hlen, ← HDL.out]; omega, T3⟩
          · have e : ((D.map fun d => R.getD d (0, 0)).zip (told P D)).map (fun x => Value.slice (some ⟨x.1.1, 0, none⟩) x.2.length x.1.2) = D.map (slv P R) := by
              unfold told
              refine List.ext_getElem (by simp) fun i h1 h2 => ?_
              simp [slv]
            rw [e, hlen]
            exact Rd.ofOwn hlown
          · intro i r p hr hp
            unfold told at hp
            rw [List.getElem?_map] at hr hp
            cases hd : D[i]? with
            | none => rw [hd] at hr; cases hr
            | some d =>
              rw [hd] at hr hp
              obtain rfl := Option.some.inj hr
              obtain rfl := Option.some.inj hp
              have hdlt := hlt d (List.mem_of_getElem? hd)
              have hpd : P[d]? = some (P.getD d []) := by rw [List.getD_eq_getElem?_getD, List.getElem?_eq_getElem hdlt]; rfl
              have hrd : R[d]? = some (R.getD d (0, 0)) := by rw [List.getD_eq_getElem?_getD, List.getElem?_eq_getElem (by rw [HRP.out.rlen]; exact hdlt)]; rfl
              obtain ⟨q1, q2, q3⟩ := HRP.out.row d _ _ hrd hpd
              have hws := HB2.out.size
              have hw3 := HKW.out.T.size
              have hgw := HGW.out
              refine ⟨by show (R.getD d (0, 0)).1 < _; omega, q2, fun m v hv => ?_⟩
              have h2 := (HB2.out.cell (p := ⟨(R.getD d (0, 0)).1, m, none⟩) q1).trans (q3 m v hv)
              exact (HKW.out.T.cell (p := ⟨(R.getD d (0, 0)).1, m, none⟩) (by show (R.getD d (0, 0)).1 < _; omega) (by show ¬ (R.getD d (0, 0)).1 = gW; omega)).trans h2
        | cons x fr =>
          have hxf := (HKI.out.free x).1 (by simp)
          obtain ⟨hxk, hxD, hxw⟩ := hxf
          have hxj : x < j := by rw [HK.out]; exact hxk
          have hfl := HKI.out.free_len
          rw [← HK.out] at hfl
          obtain ⟨gf, of, hfA, cf, HTL⟩ := HKW.out.fown.tail
          subst hfA
          have HTL := Lib.hid HTL
          have hfle := HKW.out.fown.le
          obtain ⟨n1, hn1⟩ : ∃ n1, n1 = fr.length := ⟨_, rfl⟩
          have hfle2 : n1 + 1 ≤ fc := by rw [hn1]; exact hfle
          have HN1 := Lib.hid hn1
          have hfl2 : n1 + 1 ≤ j := by rw [hn1]; exact hfl
          rw [List.length_cons, ← hn1]
          obtain ⟨o2, ho2⟩ : ∃ o2, o2 = (if fc = 1 then of else of + 1) := ⟨_, rfl⟩
          have HO2 := Lib.hid ho2
          have HXD := Lib.hid hxD
          clear hfle hn1 hfl ho2 hxD hxk hxw
          -- the part that is told, and who waited for it
          have hRP3 := (HRP.out.below HB2.out)
          have hgwl := HGW.out
          have HRP3 := Lib.hid (hRP3.below (HKW.out.T.below (B := w1.heap.size) (fun y _ e => by omega) HB2.out.size))
          obtain ⟨bp, op, r, p, hA, hbp, hri, hpi, hcp, _, _, _⟩ := HRP3.out.at_ (by rw [← HK.out]; exact hxj)
          have HPI := Lib.hid hpi
          have HRI := Lib.hid hri
          have hslv : slv P R x = .slice (some ⟨r.1, 0, none⟩) p.length r.2 := by
            unfold slv
            rw [List.getD_eq_getElem?_getD, List.getD_eq_getElem?_getD, hri, hpi]; rfl
          have HSLV := Lib.hid hslv
          obtain ⟨r1, hr1⟩ : ∃ r1, r1 = r.1 := ⟨_, rfl⟩
          obtain ⟨r2, hr2⟩ : ∃ r2, r2 = r.2 := ⟨_, rfl⟩
          obtain ⟨pl, hpl⟩ : ∃ pl, pl = p.length := ⟨_, rfl⟩
          rw [← hr1, ← hr2, ← hpl] at hcp
          have HSL2 := Lib.hid (show slv P R x = .slice (some ⟨r1, 0, none⟩) pl r2 by rw [hslv, hr1, hr2, hpl])
          clear hri hpi hslv hr1 hr2 hpl hRP3
          have HRR3 := Lib.hid (HRR.out.keep HKW.out.T (fun y e => by
            have h1 := HWF.out
            have h2 := HBS.out
            exact .inl ⟨by omega, by omega⟩))
          have hlit := run_litS (some ⟨r1, 0, none⟩) pl r2 w3
          have hZ0 : Below w3.heap.size w3 (w3.alloc (.cells #[.slice (some ⟨r1, 0, none⟩) pl r2] 43)) := (Below.refl _ _).alloc (Nat.le_refl _) _
          have HKZ := Lib.hid (HKW.out.later hZ0)
          have HZ0 := Lib.hid hZ0
          have hbz : w2.heap.size ≤ (w3.alloc (.cells #[.slice (some ⟨r1, 0, none⟩) pl r2] 43)).heap.size := HKZ.out.T.size
          have hxi : (x : Int) < (j : Int) := by omega
          have hx0 : (0 : Int) ≤ (x : Int) := by omega
          subst hA
          clear hZ0 hbp hgwl
          go_upto_region 14 with (first
            | (refine wpList_slice1 _ rfl (.tmp 46) rfl gf of n1 fc rfl hfle2 ?_
               rw [← HO2.out])
            | (at_builtin; refine appS _ rfl (.tmp 48) (.tmp 53) rfl w2.heap.size lA lc dl (D.map (slv P R)) rfl (by rw [HDL.out]; exact HKZ.out.lown) _ _ 1 1 [.slice (some ⟨r1, 0, none⟩) pl r2] rfl (litS_rd _ _ _ w3) (by simp [Value.oneCell']) (by omega) hbz ?_
               intro A5 c5 w5 ho5 ht5 hf5
               have HO5 := Lib.hid ho5
               have HT5 := Lib.hid ht5
               have HF5 := Lib.hid hf5
               clear ho5 ht5 hf5 hlit))
          have HKW5 := Lib.hid (HKZ.out.told_ (d := x) HT5.out (by rw [HSL2.out, ← HDL.out]; exact HO5.out) (HF5.out.imp id fun h => ⟨_, h, Nat.le_refl _⟩))
          have HB35 := Lib.hid ((Turn.ofBelow (G := fun y => blockOf lA = some y) HZ0.out).trans HT5.out)
          have HFT := Lib.hid (show OwF w5 w2.heap.size (some ⟨gf, o2, none⟩) (fc - 1) fr.length fr by
            have h := HTL.out.keep HB35.out (fun y hy e => HKW.out.ap y e (show blockOf (some ⟨gf, of, none⟩) = some y from hy))
            rw [← HO2.out] at h
            exact h)
          have HKW6 := Lib.hid (show Kw w2 gW j P R wf (D ++ [x]) fr A5 c5 (some ⟨gf, o2, none⟩) (fc - 1) w5 from
            ⟨HKW5.out.T, HKW5.out.gl, HKW5.out.waits, HKW5.out.lown, HFT.out, fun y hy e => HKW5.out.ap y hy (show blockOf (some ⟨gf, of, none⟩) = some y from e)⟩)
          have HKI6 := Lib.hid (HKI.out.next HI.out HE.out)
          have HNX := Lib.hid (HKI.out.nxt HI.out HE.out HHD.out)
          have HRR5 := Lib.hid (HRR.out.keep HKW6.out.T (fun y e => by
            have h1 := HWF.out
            have h2 := HBS.out
            exact .inl ⟨by omega, by omega⟩))
          obtain ⟨hl1, hl2⟩ := HRR5.out.lead x hxj
          have cfr : w5.cell? ⟨gF, x, none⟩ = some (.slice (gA x) (into P E x).length (gc x)) := (HRR5.out.blk.cell x).trans hl1
          obtain ⟨il, hil⟩ : ∃ il, il = (into P E x).length := ⟨_, rfl⟩
          rw [← hil] at cfr
          have hilb : il ≤ 16384 := by
            have := into_len P E x
            have := HLEN.out
            omega
          have HIL := Lib.hid hil
          have HL0 := Lib.hid (HRR.out.lead x hxj).2
          have hn1fr := HN1.out
          clear hl1 hl2 hil HTL HKW HKZ HZ0 HKW5 HFT hbz
          repeat (first | go_skip | go_guarded | go_step)
          go_loopw [60, 9] (fun q fv w6 => ∃ (m : Nat) (free2 : List Nat) (wf2 : Nat → Nat) (fA2 : Option Addr) (fc2 : Nat), m ≤ il ∧ q = .int .i64 (m : Int) ∧ fv = .slice fA2 free2.length fc2 ∧ Ki n E P (D ++ [x]) wf2 free2 ((into P E x).drop m) ∧ Kw w2 gW j P R wf2 (D ++ [x]) free2 A5 c5 fA2 fc2 w6) (fun q _ _ => il - (intOf q).toNat)
          case atStart => exact ⟨0, fr, wf, _, _, by omega, rfl, by rw [← hn1fr], by rw [List.drop_zero]; exact HKI6.out, HKW6.out⟩
          case round =>
            rename World => w6
            obtain ⟨m, free2, wf2, fA2, fc2, hm, rfl, rfl, hki2, hkw2⟩ := hrel
            have HKI2 := Lib.hid hki2
            have HKW2 := Lib.hid hkw2
            have hf2l := hki2.free_len
            rw [← HK.out] at hf2l
            obtain ⟨f2, hf2⟩ : ∃ f2, f2 = free2.length := ⟨_, rfl⟩
            rw [← hf2] at hf2l ⊢
            have HF2 := Lib.hid hf2
            clear hki2 hkw2 hf2
            by_cases hltm : m < il
            · have hmi : (m : Int) < (il : Int) := by omega
              obtain ⟨gr, hgr, hgr1, hgr2, hgrc, hgrl, _⟩ := ownSome HL0.out (by rw [← HIL.out]; omega)
              obtain ⟨y, hy⟩ : ∃ y, (into P E x)[m]? = some y := ⟨_, List.getElem?_eq_getElem (by rw [← HIL.out]; exact hltm)⟩
              have cy : w6.cell? ⟨gr, m, none⟩ = some (ni y) := by
                refine (HKW2.out.T.cell (p := ⟨gr, m, none⟩) hgr2 (by have := HBS.out; show ¬ gr = gW; omega)).trans (hgrl m (ni y) (by rw [List.getElem?_map, hy]; rfl))
              have hdrop : (into P E x).drop m = y :: (into P E x).drop (m + 1) := by
                obtain ⟨h1, h2⟩ := List.getElem?_eq_some_iff.1 hy
                rw [List.drop_eq_getElem_cons h1, h2]
              have hki3 := HKI2.out
              rw [hdrop] at hki3
              have HKI3 := Lib.hid hki3
              obtain ⟨hyk, hyp, hyD, hyf⟩ := hki3.head_pos
              have hyj : y < j := by rw [HK.out]; exact hyk
              have hwb : wf2 y ≤ 40000 := by
                have h1 := hki3.waits y hyk
                have h2 := out_len P E (D ++ [x]) y
                have h3 : (y :: (into P E x).drop (m + 1)).count y ≤ (y :: (into P E x).drop (m + 1)).length := List.count_le_length
                rw [← hdrop, List.length_drop, ← HIL.out] at h3
                have h4 := HLEN.out
                rw [← hdrop] at h1
                omega
              obtain ⟨wv, hwv⟩ : ∃ wv, wf2 y = wv + 1 := ⟨wf2 y - 1, by omega⟩
              have cw : w6.cell? ⟨gW, y, none⟩ = some (.int .i64 ((wv : Int) + 1)) := by
                rw [HKW2.out.waits.cell y, fnC_at _ hyj, hwv]; rfl
              have fw := HKW2.out.waits.frozen y
              have hwv2 : wv ≤ 40000 := by omega
              have HYF := Lib.hid hyf
              have HWV := Lib.hid hwv
              have hyi : (y : Int) < (j : Int) := by omega
              have hy0 : (0 : Int) ≤ (y : Int) := by omega
              have hwr : IntKind.i64.wrap (wv : Int) = (wv : Int) := by rw [IntKind.wrap_i64]; omega
              have hgAx : gA x = some ⟨gr, 0, none⟩ := hgr
              rw [hgAx]
              clear hgr hgr1 hgr2 hgrc hgrl hy hdrop hki3 hyk hyp hyD hyf hwb hwv hgAx
              go_upto_region 18 with (fail)
              obtain ⟨w7, hw7, hkw7⟩ : ∃ w7, w7 = w6.setCell ⟨gW, y, none⟩ (.int .i64 (wv : Int)) ∧ Kw w2 gW j P R (upd wf2 y wv) (D ++ [x]) free2 A5 c5 fA2 fc2 w7 := ⟨_, rfl, HKW2.out.setW y wv⟩
              rw [← hw7]
              have HKW7 := Lib.hid hkw7
              have cw7 : w7.cell? ⟨gW, y, none⟩ = some (.int .i64 (wv : Int)) := by
                rw [hkw7.waits.cell y, fnC_at _ hyj, upd_same]
              clear hw7 hkw7 cw fw cy hwr
              have HWP := Lib.hid (show upd wf2 y (wf2 y - 1) = upd wf2 y wv by rw [HWV.out]; rfl)
              by_cases h0 : wv = 0
              · subst h0
                have cw8 : w7.cell? ⟨gW, y, none⟩ = some (.int .i64 0) := cw7
                clear cw7
                repeat (first | go_skip | go_guarded | go_step)
                refine (search_any w7 w2.heap.size fA2 fc2 f2 free2 (by rw [HF2.out]; exact HKW7.out.fown) HKI3.out.sorted (by omega) y HYF.out).mono ?_
                rintro e w8 ⟨kk, bb, rfl, hkk, hlo, hhi, q, rfl⟩
                have HLO2 := Lib.hid hlo
                have HHI2 := Lib.hid hhi
                have HKW8 := Lib.hid (HKW7.out.later (belowDrews (Below.refl _ w7) q))
                obtain ⟨w8, hw8⟩ : ∃ w8, w8 = w7.drewN q := ⟨_, rfl⟩
                rw [← hw8] at HKW8 ⊢
                clear hw8 hlo hhi cw8
                dsimp only
                have hlit := run_litI (y : Int) w8
                have hZ0 : Below w8.heap.size w8 (w8.alloc (.cells #[.int .i64 (y : Int)] 3)) := (Below.refl _ _).alloc (Nat.le_refl _) _
                have HKW9 := Lib.hid (HKW8.out.later hZ0)
                have hvb := Bk.new w8 3 [ni y]
                have HVB := Lib.hid hvb
                have HVA := Lib.hid (show blockOf fA2 ≠ some w8.heap.size from fun e => by have := (HKW8.out.fown.low e).2; omega)
                have hbz : w2.heap.size ≤ (w8.alloc (.cells #[.int .i64 (y : Int)] 3)).heap.size := HKW9.out.T.size
                clear hZ0 hvb
                repeat (first | go_skip | go_guarded | go_step)
                refine (insert_any _ w2.heap.size fA2 fc2 f2 free2 (by rw [HF2.out]; exact HKW9.out.fown) kk hkk (by omega) w8.heap.size y HVB.out HVA.out hbz).mono ?_
                rintro e w10 ⟨fA3, fc3, rfl, hof, htf, hbf⟩
                have hilen : (ins free2 kk y).length = f2 + 1 := by rw [ins_len (by rw [← HF2.out]; exact hkk), HF2.out]
                have HKW10 := Lib.hid (HKW9.out.free_ (free' := ins free2 kk y) htf (by rw [hilen]; exact hof) hbf)
                have HILN := Lib.hid hilen
                clear hof htf hbf hilen hlit
                dsimp only
                repeat (first | go_skip | go_guarded | go_step)
                have hfr := HKI3.out.freed (k := kk) (by rw [HWV.out]) (by rw [← HF2.out]; exact hkk) HLO2.out HHI2.out
                rw [HWP.out] at hfr
                go_roundw
                case rel => exact ⟨m + 1, ins free2 kk y, upd wf2 y 0, fA3, fc3, by omega, by go_num, by rw [HILN.out], hfr, HKW10.out⟩
                case measure => simp [intOf]; omega
              · have hb0 : ((wv : Int) == 0) = false := by simp; omega
                have hb1 : ¬ (wv : Int) = 0 := by omega
                repeat (first | go_skip | go_guarded | go_step)
                have hdn := HKI3.out.down (by rw [HWV.out]; omega)
                rw [HWP.out] at hdn
                go_roundw
                case rel => exact ⟨m + 1, free2, upd wf2 y wv, fA2, fc2, by omega, by go_num, by rw [HF2.out], hdn, HKW7.out⟩
                case measure => simp [intOf]; omega
            · obtain rfl : m = il := by omega
              have hmi : ¬ (m : Int) < (m : Int) := by omega
              have HKI3 := Lib.hid (show Ki n E P (D ++ [x]) wf2 free2 [] by
                have h := HKI2.out
                rw [List.drop_of_length_le (by rw [← HIL.out]; exact Nat.le_refl _)] at h
                exact h)
              repeat (first | go_skip | go_guarded | go_step)
              have hG : D.length + 1 ≤ j := by
                have := HKI3.out.told_len
                rw [← HK.out, List.length_append] at this
                exact this
              have hDG := HDG.out
              obtain ⟨v, hv1, hv2⟩ := HNX.out
              go_roundg (G - 1)
              case measure => omega
              case rel => exact ⟨D ++ [x], free2, wf2, A5, fA2, c5, fc2, by rw [List.length_append, List.length_singleton]; omega, by rw [List.length_append, HDL.out]; rfl, by rw [HF2.out], HKI3.out, HKW2.out, fun L' hL' => by
                rw [told_snoc] at hL' ⊢
                rw [List.flatten_append] at hL'
                have e : [P.getD x []].flatten = part n E v := by rw [hv2]; simp
                rw [e] at hL'
                have := HORD.out (part n E v :: L') (.next hv1 hL')
                rw [hv2, List.append_assoc]
                exact this⟩
end Go.Proofs.Ytfmghkplafploaa

set_option linter.unusedVariables false
set_option linter.unusedSimpArgs false
namespace Go.Proofs.Ytfmghkplafploaa
open Go Go.RowKit Go.Lib Go.Shelf

/-! ### Parts -/
def okE (n : Int) (e : Int × Int) : Bool := decide (0 ≤ e.1 ∧ e.1 < n ∧ 0 ≤ e.2 ∧ e.2 < n)
set_option maxRecDepth 100000 in
set_option maxHeartbeats 1000000 in
theorem haveEnds_any (n : Int) (A : Option Addr) (ne c : Nat) (E : List (Int × Int)) (w : World) (hr : RdE w w.heap.size A ne E) (hne : ne ≤ 16384) :
    Calls Try.prog 22 #[.int .i64 n, .slice A ne c] w fun e w' => e = .returned (.bool (E.all (okE n))) ∧ Below w.heap.size w w' := by
  have HLEN := Lib.hid hr.len
  have HR := Lib.hid hr
  clear hr
  go_enter Try.func22, Try.ntmps22
  repeat (first | go_skip | go_guarded | go_step)
  go_loopw [9] (fun q wr => ∃ i : Nat, i ≤ ne ∧ q = .int .i64 (i : Int) ∧ (E.take i).all (okE n) = true ∧ Below w.heap.size w wr) (fun q _ => ne - (intOf q).toNat)
  case atStart => exact ⟨0, by omega, rfl, by simp, Below.refl _ _⟩
  case round =>
    rename World => wr
    obtain ⟨i, hi, rfl, hall, hbw⟩ := hrel
    have HALL := Lib.hid hall
    have HBW := Lib.hid hbw
    clear hall hbw
    by_cases hlt : i < ne
    · have hii : (i : Int) < (ne : Int) := by omega
      obtain ⟨be, oe, e, hA, hbe, he, hc0, hc1⟩ := HR.out.at_ hlt
      subst hA
      obtain ⟨a, b⟩ := e
      have k0 := (HBW.out.cell (p := ⟨be, oe + i * 2, none⟩) hbe).trans hc0
      have k1 := (HBW.out.cell (p := ⟨be, oe + i * 2 + 1, none⟩) hbe).trans hc1
      have HX := Lib.hid he
      have hbx : be < wr.heap.size := Nat.lt_of_lt_of_le hbe HBW.out.size
      dsimp only at k0 k1
      clear he hc0 hc1
      have HBZ := Lib.hid (show Below w.heap.size w (wr.alloc (.cells #[.int .i64 a, .int .i64 b] 75)) from HBW.out.alloc HBW.out.size _)
      by_cases h1 : min a b < 0
      · have HF := Lib.hid (show E.all (okE n) = false by
          rw [List.all_eq_false]
          exact ⟨(a, b), List.mem_of_getElem? HX.out, by unfold okE; simp; omega⟩)
        have h2 : decide (min a b < 0) = true := decide_eq_true h1
        repeat (first | go_skip | go_guarded | go_step)
        go_ret
        exact ⟨by rw [HF.out]; rfl, HBZ.out⟩
      · have h1' : decide (min a b < 0) = false := decide_eq_false h1
        by_cases h3 : n ≤ max a b
        · have HF := Lib.hid (show E.all (okE n) = false by
            rw [List.all_eq_false]
            exact ⟨(a, b), List.mem_of_getElem? HX.out, by unfold okE; simp; omega⟩)
          have h4 : decide (n ≤ max a b) = true := decide_eq_true h3
          repeat (first | go_skip | go_guarded | go_step)
          go_ret
          exact ⟨by rw [HF.out]; rfl, HBZ.out⟩
        · have h4 : decide (n ≤ max a b) = false := decide_eq_false h3
          have HOK := Lib.hid (show okE n (a, b) = true by unfold okE; simp; omega)
          repeat (first | go_skip | go_guarded | go_step)
          go_roundw
          case rel => exact ⟨i + 1, by omega, by go_num, by
            rw [List.take_add_one, HX.out, List.all_append, HALL.out]
            simpa using HOK.out, HBZ.out⟩
          case measure => simp [intOf]; omega
    · obtain rfl : i = ne := by omega
      have hii : ¬ (i : Int) < (i : Int) := by omega
      have HF := Lib.hid (show E.all (okE n) = true by
        have := HALL.out
        rwa [List.take_of_length_le (by rw [HLEN.out]; exact Nat.le_refl _)] at this)
      repeat (first | go_skip | go_guarded | go_step)
      go_ret
      exact ⟨by rw [HF.out]; rfl, HBW.out⟩
/-- What Parts answers. -/
def Told (n : Int) (E0 : List (Int × Int)) (w w' : World) (e : Ending) : Prop :=
  Below w.heap.size w w' ∧
  ((4096 < n ∨ 16384 < E0.length) ∧ e = .returned (.tuple #[.slice none 0 0, .int .i64 6]) ∨
   (n ≤ 4096 ∧ E0.length ≤ 16384) ∧ (n < 0 ∨ E0.all (okE n) = false) ∧ e = .returned (.tuple #[.slice none 0 0, .int .i64 1]) ∨
   ∃ (k : Nat) (E : List (Nat × Nat)) (A : Option Addr) (c : Nat) (L : List (List Nat)) (R : List (Nat × Nat)), n = (k : Int) ∧ k ≤ 4096 ∧ E0.length ≤ 16384 ∧ E0 = ei E ∧ In k E ∧ e = .returned (.tuple #[.slice A L.length c, .int .i64 0]) ∧ RdP w' w'.heap.size A L R ∧ Order k E [] L ∧ L.length ≤ 4096)
theorem okE_nat {k : Nat} : ∀ {E0 : List (Int × Int)}, E0.all (okE k) = true → ∃ E, E0 = ei E ∧ In k E
  | [], _ => ⟨[], rfl, fun e he => by simp at he⟩
  | (a, b) :: E0, h => by
    rw [List.all_cons, Bool.and_eq_true] at h
    obtain ⟨E, h1, h2⟩ := okE_nat h.2
    have h3 := h.1
    unfold okE at h3
    simp only [decide_eq_true_eq] at h3
    refine ⟨(a.toNat, b.toNat) :: E, ?_, fun e he => ?_⟩
    · rw [h1]
      show (a, b) :: ei E = ((a.toNat : Int), (b.toNat : Int)) :: ei E
      rw [Int.toNat_of_nonneg h3.1, Int.toNat_of_nonneg h3.2.2.1]
    · rcases List.mem_cons.1 he with rfl | he
      · constructor <;> (dsimp only; omega)
      · exact h2 e he
set_option maxRecDepth 100000 in
set_option maxHeartbeats 1000000 in
theorem parts_any (n : Int) (A : Option Addr) (ne c : Nat) (E0 : List (Int × Int)) (w : World) (hr : RdE w w.heap.size A ne E0) :
    Calls Try.prog 15 #[.int .i64 n, .slice A ne c] w fun e w' => Told n E0 w w' e := by
  have hlen := hr.len
  by_cases h1 : 4096 < n
  · have HF := Lib.hid h1
    go_enter Try.func15, Try.ntmps15
    repeat (first | go_skip | go_guarded | go_step)
    go_ret2
    exact ⟨Below.refl _ _, .inl ⟨.inl HF.out, rfl⟩⟩
  by_cases h2 : 16384 < ne
  · have HF := Lib.hid (show 16384 < E0.length by omega)
    have h1' : decide (4096 < n) = false := decide_eq_false h1
    have h2' : (16384 : Int) < (ne : Int) := by omega
    clear hlen hr
    go_enter Try.func15, Try.ntmps15
    repeat (first | go_skip | go_guarded | go_step)
    go_ret2
    exact ⟨Below.refl _ _, .inl ⟨.inr HF.out, rfl⟩⟩
  have HNN := Lib.hid (show n ≤ 4096 ∧ E0.length ≤ 16384 by omega)
  have h1' : decide (4096 < n) = false := decide_eq_false h1
  have h2' : ¬ (16384 : Int) < (ne : Int) := by omega
  have hne : ne ≤ 16384 := by omega
  have HR := Lib.hid hr
  have HLEN := Lib.hid hlen
  clear hlen hr
  by_cases h3 : n < 0
  · have HF := Lib.hid h3
    go_enter Try.func15, Try.ntmps15
    repeat (first | go_skip | go_guarded | go_step)
    go_ret2
    exact ⟨Below.refl _ _, .inr (.inl ⟨HNN.out, .inl HF.out, rfl⟩)⟩
  have h3' : decide (n < 0) = false := decide_eq_false h3
  have hH := haveEnds_any n A ne c E0 w HR.out hne
  cases hall : E0.all (okE n) with
  | false =>
    rw [hall] at hH
    have HF := Lib.hid hall
    clear hall
    go_enter Try.func15, Try.ntmps15
    repeat (first | go_skip | go_guarded | go_step)
    refine hH.mono ?_
    rintro e w1 ⟨rfl, hb1⟩
    have HB1 := Lib.hid hb1
    clear hb1 hH
    dsimp only
    repeat (first | go_skip | go_guarded | go_step)
    go_ret2
    exact ⟨HB1.out, .inr (.inl ⟨HNN.out, .inr HF.out, rfl⟩)⟩
  | true =>
    rw [hall] at hH
    obtain ⟨k, rfl⟩ : ∃ k : Nat, n = (k : Int) := ⟨n.toNat, by omega⟩
    obtain ⟨E, hE0, hE⟩ := okE_nat hall
    subst hE0
    have HE := Lib.hid hE
    have hk4 : k ≤ 4096 := by omega
    clear hall hE
    go_enter Try.func15, Try.ntmps15
    repeat (first | go_skip | go_guarded | go_step)
    refine hH.mono ?_
    rintro e w1 ⟨rfl, hb1⟩
    have HB1 := Lib.hid hb1
    have HR1 := Lib.hid ((HR.out.below hb1).more hb1.size)
    clear hb1 hH
    dsimp only
    repeat (first | go_skip | go_guarded | go_step)
    refine (found_any w1 k E A ne c HR1.out HE.out hk4 hne).mono ?_
    rintro e w2 ⟨A2, c2, P, R, rfl, hp, hI, hb2⟩
    have HP := Lib.hid hp
    have HI := Lib.hid hI
    have HB2 := Lib.hid hb2
    have hs2 := hb2.size
    clear hp hI hb2
    dsimp only
    repeat (first | go_skip | go_guarded | go_step)
    refine (inOrder_any w2 k w1.heap.size E A ne c (HR1.out.below HB2.out) HE.out hk4 hne hs2 A2 c2 P R HP.out HI.out).mono ?_
    rintro e w3 ⟨A3, c3, L, R3, rfl, hrp, hord, hll, hT⟩
    have HRP := Lib.hid hrp
    have HO := Lib.hid hord
    have HB3 := Lib.hid (show Below w.heap.size w w3 from by
      have hw1 := HB1.out.size
      have h23 : Below w.heap.size w2 w3 := hT.below (B := w.heap.size) (fun x _ e => by have := (own_low HP.out.own e).1; omega) (by omega)
      exact (HB1.out.trans (HB2.out.mono hw1)).trans h23)
    clear hrp hord hT hs2
    dsimp only
    repeat (first | go_skip | go_guarded | go_step)
    go_ret2
    exact ⟨HB3.out, .inr (.inr ⟨k, E, A3, c3, L, R3, rfl, hk4, HNN.out.2, rfl, HE.out, rfl, HRP.out, HO.out, hll⟩)⟩
end Go.Proofs.Ytfmghkplafploaa

