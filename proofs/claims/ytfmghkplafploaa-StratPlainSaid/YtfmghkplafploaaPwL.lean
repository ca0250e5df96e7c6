/- Texts, packed: GrF GrG -/
import Derived.Test.YtfmghkplafploaaPwJ
import Derived.Test.YtfmghkplafploaaPwK
import Derived.Deep.LoopGhost
import Derived.WalkMore
import Derived.Deep.RegionHeld3
set_option linter.unusedVariables false
set_option linter.unusedSimpArgs false
namespace Go.Proofs.Ytfmghkplafploaa
open Go Go.RowKit

/-! ### How many rounds are to come -/
def sumL (n : Nat) (f : Nat → List Nat) : Nat := ((List.range n).map fun u => (f u).length).sum
theorem sumL_upd {n a w : Nat} {f : Nat → List Nat} {r : List Nat} (hf : f a = w :: r) (ha : a < n) : sumL n (upd f a r) + 1 = sumL n f := by
  unfold sumL
  induction n with
  | zero => omega
  | succ n ih =>
    rw [List.range_succ, List.map_append, List.map_append, List.sum_append, List.sum_append]
    by_cases e : a = n
    · subst e
      have h1 : (List.range a).map (fun u => (upd f a r u).length) = (List.range a).map (fun u => (f u).length) := by
        refine List.map_congr_left fun u hu => ?_
        rw [upd_other (by have := List.mem_range.1 hu; omega)]
      rw [h1]
      simp only [List.map_cons, List.map_nil, upd_same, hf, List.sum_cons, List.sum_nil, List.length_cons]
      omega
    · have := ih (by omega)
      simp only [List.map_cons, List.map_nil, upd_other (Ne.symm e), List.sum_cons, List.sum_nil]
      omega
def meas (n : Nat) (s : Se) : Nat := 2 * (n - s.come) + sumL n s.leads + s.todo.length
section
variable {n : Nat} {E : List (Nat × Nat)} {s : Se}
theorem Inv.come_le (h : Inv n E s) : s.come ≤ n := by have := h.count; omega
theorem meas_come {v : Nat} (h : Inv n E (comeL s v)) : meas n (comeL s v) + 1 = meas n s := by
  have h1 : s.come + 1 ≤ n := h.come_le
  show 2 * (n - (s.come + 1)) + sumL n s.leads + (s.todo ++ [v]).length + 1 = 2 * (n - s.come) + sumL n s.leads + s.todo.length
  rw [List.length_append, List.length_singleton]
  omega
theorem meas_look {a w : Nat} {r : List Nat} (hd : s.leads a = w :: r) (ha : a < n) : meas n (lookL s a w r) + 1 = meas n s := by
  have := sumL_upd hd ha
  show 2 * (n - s.come) + sumL n (upd s.leads a r) + s.todo.length + 1 = 2 * (n - s.come) + sumL n s.leads + s.todo.length
  omega
theorem Inv.opn_nodup (h : Inv n E s) : s.opn.Nodup := h.mono.imp fun {a b} k e => by subst e; omega
theorem Inv.opn_len (h : Inv n E s) : s.opn.length ≤ n := nodup_len n s.opn h.opn_nodup h.lt
where
  nodup_len : ∀ (n : Nat) (l : List Nat), l.Nodup → (∀ x ∈ l, x < n) → l.length ≤ n
    | 0, l, _, h => by
      cases l with
      | nil => simp
      | cons a l => have := h a (by simp); omega
    | n + 1, l, hd, h => by
      have h1 := nodup_len n (l.erase n) (hd.erase n) fun x hx => by
        have := (List.Nodup.mem_erase_iff hd).1 hx
        have := h x this.2
        omega
      by_cases k : n ∈ l
      · have := List.length_erase_of_mem k; omega
      · rw [List.erase_of_not_mem k] at h1; omega
theorem Inv.todo_len (h : Inv n E s) : s.todo.length ≤ n := Nat.le_trans h.sub.length_le h.opn_len
/-- There are no more parts than nodes. -/
theorem Inv.parts_len (h : Inv n E s) : s.parts.length ≤ n := by
  have hne : ∀ p ∈ s.parts, p ≠ [] := fun p hp => by
    obtain ⟨v, hv, rfl⟩ := h.parts p hp
    exact part_ne hv
  have h1 : (s.parts.map fun p => p.headD 0).Nodup := by
    refine List.pairwise_map.2 ?_
    refine h.apart.imp_of_mem fun {p q} hp hq k e => ?_
    obtain ⟨a, p', rfl⟩ := List.exists_cons_of_ne_nil (hne p hp)
    obtain ⟨b, q', rfl⟩ := List.exists_cons_of_ne_nil (hne q hq)
    simp only [List.headD_cons] at e
    subst e
    exact k a (by simp) (by simp)
  have h2 : ∀ x ∈ s.parts.map (fun p => p.headD 0), x < n := by
    intro x hx
    obtain ⟨p, hp, rfl⟩ := List.mem_map.1 hx
    obtain ⟨a, p', rfl⟩ := List.exists_cons_of_ne_nil (hne _ hp)
    obtain ⟨v, hv, e⟩ := h.parts _ hp
    have : a ∈ part n E v := by rw [← e]; simp
    exact (mem_part.1 this).1
  have := Inv.opn_len.nodup_len n _ h1 h2
  simpa using this
theorem Inv.leads_lt (hE : In n E) (h : Inv n E s) {a w : Nat} (hw : w ∈ s.leads a) : w < n := (hE _ (h.edges _ _ hw)).2
end

/-! ### One round's turns in memory -/
section
variable {W0 w : World} {n S LB : Nat} {m : Mem} {s : Se}
theorem SeM.backSet (h : SeM W0 n S LB m w s) {x : Nat} (hx : x < 4096) (b : Nat) :
    SeM W0 n S LB { m with cs := m.cs.set (x * 3 + 1) (ni b) } (w.setCell ⟨S, x * 3 + 1, none⟩ (ni b)) { s with far := upd s.far x ((s.far x).1, b, (s.far x).2.2) } := by
  have hl := h.len
  refine h.again (h.cell_turn _ _) (h.blk.set_ _ _) (by rw [List.length_set]; exact h.len) rfl rfl ?_ ?_ ?_ ?_ ?_ ?_ h.todo h.opn
  · intro u hu
    by_cases e : u = x
    · subst e
      rw [show ({ s with far := upd s.far u ((s.far u).1, b, (s.far u).2.2) } : Se).far u = ((s.far u).1, b, (s.far u).2.2) from upd_same]
      have := h.far u hu
      refine ⟨?_, ?_, ?_⟩
      · rw [List.getElem?_set_ne (by omega)]; exact this.1
      · rw [List.getElem?_set_self (by omega)]
      · rw [List.getElem?_set_ne (by omega)]; exact this.2.2
    · rw [show ({ s with far := upd s.far x ((s.far x).1, b, (s.far x).2.2) } : Se).far u = s.far u from upd_other e]
      have := h.far u hu
      refine ⟨?_, ?_, ?_⟩
      · rw [List.getElem?_set_ne (by omega)]; exact this.1
      · rw [List.getElem?_set_ne (by omega)]; exact this.2.1
      · rw [List.getElem?_set_ne (by omega)]; exact this.2.2
  · rw [List.getElem?_set_ne (by omega)]
  · rw [List.getElem?_set_ne (by omega)]; exact h.cCome
  · rw [List.getElem?_set_ne (by omega)]; exact h.cTodo
  · rw [List.getElem?_set_ne (by omega)]; exact h.cOpn
  · rw [List.getElem?_set_ne (by omega)]
/-- One node's list of edges is cut by its first. -/
theorem SeM.leadSet (h : SeM W0 n S LB m w s) {a : Nat} (ha : a < n) {r : List Nat} {A : Option Addr} {c : Nat} (hc : r.length ≤ c)
    (hr : 0 < r.length → ∃ b o, A = some ⟨b, o, none⟩ ∧ b < W0.heap.size ∧ b ≠ S ∧ b ≠ LB ∧ ∀ j v, r[j]? = some v → W0.cell? ⟨b, o + j, none⟩ = some (ni v)) :
    SeM W0 n S LB { m with lv := m.lv.set a (.slice A r.length c) } (w.setCell ⟨LB, a, none⟩ (.slice A r.length c)) { s with leads := upd s.leads a r } := by
  obtain ⟨n1, n2, n3⟩ := h.own_ne
  have T : Turn (fun k => k = LB) w (w.setCell ⟨LB, a, none⟩ (.slice A r.length c)) := (Turn.refl (fun k => k = LB) w).setCell (p := ⟨LB, a, none⟩) (fun _ => rfl) _
  refine ⟨h.frame.then_ T fun k _ e => .inr e, h.hS, h.hL, h.hSL, T.bk h.blk h.hSL, h.len, h.far, h.cLeads, h.cCome, h.cTodo, h.cOpn, h.cParts, h.lblk.set_ _ _, by rw [List.length_set]; exact h.llen, ?_, turn_own T h.todo fun k hk e => (n1 k hk).2 e, turn_own T h.opn fun k hk e => (n2 k hk).2 e, turn_own T h.parts fun k hk e => (n3 k hk).2 e, h.rlen, ?_, h.ap1, h.ap2, h.ap3⟩
  · intro u hu
    by_cases e : u = a
    · subst e
      refine ⟨A, c, ?_, ?_, ?_⟩
      · show (m.lv.set u _)[u]? = some (.slice A (upd s.leads u r u).length c)
        rw [List.getElem?_set_self (by rw [h.llen]; exact hu), upd_same]
      · show (upd s.leads u r u).length ≤ c
        rw [upd_same]; exact hc
      · show 0 < (upd s.leads u r u).length → ∃ b o, A = some ⟨b, o, none⟩ ∧ b < W0.heap.size ∧ b ≠ S ∧ b ≠ LB ∧ ∀ j v, (upd s.leads u r u)[j]? = some v → W0.cell? ⟨b, o + j, none⟩ = some (ni v)
        rw [upd_same]; exact hr
    · obtain ⟨A', c', q1, q2, q3⟩ := h.lead u hu
      refine ⟨A', c', ?_, ?_, ?_⟩
      · show (m.lv.set a _)[u]? = some (.slice A' (upd s.leads a r u).length c')
        rw [List.getElem?_set_ne (fun k => e k.symm), upd_other e]; exact q1
      · show (upd s.leads a r u).length ≤ c'
        rw [upd_other e]; exact q2
      · show 0 < (upd s.leads a r u).length → ∃ b o, A' = some ⟨b, o, none⟩ ∧ b < W0.heap.size ∧ b ≠ S ∧ b ≠ LB ∧ ∀ j v, (upd s.leads a r u)[j]? = some v → W0.cell? ⟨b, o + j, none⟩ = some (ni v)
        rw [upd_other e]; exact q3
  · intro i r' p hr' hp
    obtain ⟨q1, q2, q3, q4⟩ := h.row i r' p hr' hp
    refine ⟨q1, Nat.lt_of_lt_of_le q2 T.size, q3, fun j x hx => (T.cell (p := ⟨r'.1, j, none⟩) q2 fun e => ?_).trans (q4 j x hx)⟩
    have e' : r'.1 = LB := e
    have := h.hL
    omega
end
/-- What holds of the search while it goes on from v, having been s. -/
structure Go_ (W0 : World) (n S LB : Nat) (E : List (Nat × Nat)) (v : Nat) (s : Se) (g : Nat) (m' : Mem) (s' : Se) (wr : World) : Prop where
  meas : meas n s' ≤ g
  mem : SeM W0 n S LB m' wr s'
  inv : Inv n E s'
  seen : s'.far v ≠ white
  more : ∀ u, s.far u ≠ white → s'.far u ≠ white
section
variable {W0 wr wr' : World} {n S LB : Nat} {E : List (Nat × Nat)} {v : Nat} {s s' : Se} {g : Nat} {m' : Mem}
theorem SeM.leadRd (h : SeM W0 n S LB m' wr s') {a : Nat} (ha : a < n) : ∃ A c, wr.cell? ⟨LB, a, none⟩ = some (.slice A (s'.leads a).length c) ∧ (s'.leads a).length ≤ c ∧ (0 < (s'.leads a).length → ∃ b o, A = some ⟨b, o, none⟩ ∧ b < W0.heap.size ∧ b ≠ S ∧ b ≠ LB ∧ (∀ j v, (s'.leads a)[j]? = some v → W0.cell? ⟨b, o + j, none⟩ = some (ni v)) ∧ ∀ j v, (s'.leads a)[j]? = some v → wr.cell? ⟨b, o + j, none⟩ = some (ni v)) := by
  obtain ⟨A, c, h1, h2, h3⟩ := h.lead a ha
  refine ⟨A, c, (h.lblk.cell a).trans h1, h2, fun hp => ?_⟩
  obtain ⟨b, o, e, q1, q2, q3, q4⟩ := h3 hp
  exact ⟨b, o, e, q1, q2, q3, q4, fun j v hv => (h.frame.cell (p := ⟨b, o + j, none⟩) q1 (fun k => by
    rcases k with k | k
    · exact q2 k
    · exact q3 k)).trans (q4 j v hv)⟩
theorem leave_go (hE : In n E) (hn : n ≤ 4096) (h : Go_ W0 n S LB E v s g m' s' wr) {l : List Nat} {a : Nat} (ht : s'.todo = l ++ [a]) (hd : s'.leads a = []) :
    Calls Try.prog 62 #[.pointer (some ⟨S, 0, none⟩), ni a] wr fun e w' => e = .returned (.tuple #[]) ∧ ∃ k m3 s3, k < g ∧ Go_ W0 n S LB E v s k m3 s3 w' := by
  obtain ⟨hao, hlt⟩ := h.inv.last ht
  have han := h.inv.lt a hao
  have htl := h.inv.todo_len
  have hol := h.inv.opn_len
  have hm := h.meas
  have hlen : s'.todo.length = l.length + 1 := by rw [ht]; simp
  by_cases hb : (s'.far a).2.1 < (s'.far a).1
  · refine (leave1_any W0 n S LB m' wr s' a l h.mem (by omega) ht hb (by omega)).mono ?_
    rintro e w' ⟨rfl, m3, hm3⟩
    refine ⟨rfl, meas n { s' with todo := l }, m3, _, ?_, Nat.le_refl _, hm3, h.inv.leave_ ht hd hb, h.seen, h.more⟩
    show 2 * (n - s'.come) + sumL n s'.leads + l.length < g
    unfold meas at hm
    omega
  · obtain ⟨pre, post, ho⟩ := List.append_of_mem hao
    have hnd := h.inv.opn_nodup
    rw [ho] at hnd
    have hnp : a ∉ post := by
      have := (List.nodup_append.1 hnd).2.1
      exact (List.nodup_cons.1 this).1
    obtain ⟨hpart, hinv⟩ := h.inv.part_ ht hd hb ho hE
    have hsrt : (a :: post).mergeSort (fun x y => decide (x ≤ y)) = part n E a := by
      refine sorted_ext ?_ part_sorted fun x => ?_
      · have h1 := List.pairwise_mergeSort (le := fun x y : Nat => decide (x ≤ y)) (fun a b c h1 h2 => by simp at *; omega) (fun a b => by simp; omega) (a :: post)
        have h2 : ((a :: post).mergeSort (fun x y => decide (x ≤ y))).Nodup := (List.mergeSort_perm _ _).nodup_iff.2 (List.nodup_append.1 hnd).2.1
        refine List.Pairwise.imp₂ (fun {x y} k1 k2 => ?_) h1 h2
        simp only [decide_eq_true_eq] at k1
        omega
      · rw [(List.mergeSort_perm _ _).mem_iff]
        exact hpart x
    refine (leave2_any W0 n S LB m' wr s' a l h.mem (by omega) ht hb ho hnp (by omega) (by have := h.inv.parts_len; omega) (fun x hx => by have := h.inv.lt x hx; omega) (by omega)).mono ?_
    rintro e w' ⟨rfl, m3, hm3⟩
    rw [hsrt] at hm3
    refine ⟨rfl, meas n { s' with todo := l, opn := pre, far := fun u => if u ∈ a :: post then dark else s'.far u, parts := s'.parts ++ [part n E a] }, m3, _, ?_, Nat.le_refl _, hm3, hinv, ?_, ?_⟩
    · show 2 * (n - s'.come) + sumL n s'.leads + l.length < g
      unfold meas at hm
      omega
    · dsimp only
      split
      · exact fun e => white_dark e.symm
      · exact h.seen
    · intro u hu
      dsimp only
      split
      · exact fun e => white_dark e.symm
      · exact h.more u hu
theorem come_go (hE : In n E) (hn : n ≤ 4096) (h : Go_ W0 n S LB E v s g m' s' wr) {l r : List Nat} {a x : Nat} (ht : s'.todo = l ++ [a]) (hd : s'.leads a = x :: r) (hw : s'.far x = white) :
    Calls Try.prog 61 #[.pointer (some ⟨S, 0, none⟩), ni x] wr fun e w' => e = .returned (.tuple #[]) ∧ ∃ k m3 s3, k < g ∧ Go_ W0 n S LB E v s k m3 s3 w' := by
  have hxn : x < n := h.inv.leads_lt hE (a := a) (by rw [hd]; simp)
  have hinv := h.inv.come_ hxn hw (.inr ⟨l, a, ht, by rw [hd]; rfl⟩)
  have htl := h.inv.todo_len
  have hol := h.inv.opn_len
  have hcl := h.inv.come_le
  have hms := meas_come hinv
  have hm := h.meas
  refine (comeTo_any W0 n S LB m' wr s' x h.mem (by omega) (by omega) (by omega) (by omega)).mono ?_
  rintro e w' ⟨rfl, m3, hm3⟩
  refine ⟨rfl, meas n (comeL s' x), m3, _, by omega, Nat.le_refl _, hm3, hinv, ?_, ?_⟩
  · by_cases e : v = x
    · subst e; exact absurd hw h.seen
    · rw [show (comeL s' x).far v = s'.far v from upd_other e]; exact h.seen
  · intro u hu
    have := h.more u hu
    by_cases e : u = x
    · subst e; exact absurd hw this
    · rw [show (comeL s' x).far u = s'.far u from upd_other e]; exact this
theorem look_go (h : Go_ W0 n S LB E v s g m' s' wr) {l r : List Nat} {a x : Nat} (ht : s'.todo = l ++ [a]) (hd : s'.leads a = x :: r) (hw : s'.far x ≠ white) {m3 : Mem} (hm3 : SeM W0 n S LB m3 wr' (lookL s' a x r)) :
    ∃ k, k < g ∧ Go_ W0 n S LB E v s k m3 (lookL s' a x r) wr' ∧ (lookL s' a x r).todo = l ++ [a] := by
  have hao := (h.inv.last ht).1
  have han := h.inv.lt a hao
  have hms := meas_look hd han
  have hm := h.meas
  have hf : ∀ u, s'.far u ≠ white → (lookL s' a x r).far u ≠ white := by
    intro u hu
    simp only [lookL]
    split
    · exact hu
    · by_cases e : u = a
      · subst e
        rw [upd_same]
        intro e
        have := (h.inv.pos u hao).1
        have e1 := congrArg Prod.fst e
        simp only [white] at e1
        omega
      · rw [upd_other e]; exact hu
  exact ⟨meas n (lookL s' a x r), by omega, ⟨Nat.le_refl _, hm3, h.inv.look_ ht hd hw, hf v h.seen, fun u hu => hf u (h.more u hu)⟩, ht⟩
end
set_option maxRecDepth 100000 in
set_option maxHeartbeats 4000000 in
theorem from_any (W0 : World) (n S LB : Nat) (E : List (Nat × Nat)) (hE : In n E) (hn : n ≤ 4096) (m : Mem) (w : World) (s : Se) (v : Nat) (h : SeM W0 n S LB m w s) (hi : Inv n E s) (hv : v < n) (hw : s.far v = white) (ht : s.todo = []) :
    Calls Try.prog 38 #[.pointer (some ⟨S, 0, none⟩), ni v] w fun e w' => e = .returned (.tuple #[]) ∧ ∃ m' s', SeM W0 n S LB m' w' s' ∧ Inv n E s' ∧ s'.todo = [] ∧ s'.far v ≠ white ∧ ∀ u, s.far u ≠ white → s'.far u ≠ white := by
  have hi1 := hi.come_ hv hw (.inl ht)
  have HI1 := Lib.hid hi1
  have HI := Lib.hid hi
  have HW := Lib.hid hw
  have HE := Lib.hid hE
  have hc1 := comeTo_any W0 n S LB m w s v h (by omega) (by have := hi.come_le; omega) (by have := hi.todo_len; omega) (by have := hi.opn_len; omega)
  have HM := Lib.hid h
  clear h hi hi1 hw ht hE
  go_enter Try.func38, Try.ntmps38
  go_wp2_with (fail)
  go_step3
  repeat (first | go_skip | go_guarded | go_step)
  refine hc1.mono ?_
  rintro e w1 ⟨rfl, m1, hm1⟩
  have HM1 := Lib.hid hm1
  clear hm1 hc1
  dsimp only
  repeat (first | go_skip | go_guarded | go_step)
  go_step3
  repeat (first | go_skip | go_guarded | go_step)
  go_loopg [4] (meas n (comeL s v)) (fun g _ wr => ∃ m' s', Go_ W0 n S LB E v s g m' s' wr)
  case atStart =>
    refine ⟨m1, comeL s v, Nat.le_refl _, HM1.out, HI1.out, ?_, fun u hu => ?_⟩
    · rw [show (comeL s v).far v = (s.come + 1, s.come + 1, false) from upd_same]
      simp [white]
    · rw [show (comeL s v).far u = s.far u from upd_other (fun e => hu (e ▸ HW.out))]
      exact hu
  case round =>
    obtain ⟨G, rfl⟩ : ∃ G, G = gk := ⟨_, rfl⟩
    obtain ⟨m', s', hg⟩ := hrel
    have HG := Lib.hid hg
    have ct := hg.mem.rd hg.mem.cTodo
    have htl := hg.inv.todo_len
    clear hg
    rcases List.eq_nil_or_concat s'.todo with hnil | ⟨l, a, hcat⟩
    · rw [hnil] at ct
      have HN := Lib.hid hnil
      clear hnil htl
      simp only [List.length_nil] at ct
      repeat (first | go_skip | go_guarded | go_step)
      rw [Exit.noGoto_normal]
      go_end0
      exact ⟨rfl, m', s', HG.out.mem, HG.out.inv, HN.out, HG.out.seen, HG.out.more⟩
    · rw [List.concat_eq_append] at hcat
      have hk : s'.todo.length = l.length + 1 := by rw [hcat]; simp
      have htodo := HG.out.mem.todo
      rw [hk] at htodo ct htl
      obtain ⟨gT, hA, hg1, hg2, htc, hcl, hfz⟩ := ownSome htodo (by omega)
      rw [hA] at ct
      have ca : wr.cell? ⟨gT, l.length, none⟩ = some (ni a) := hcl l.length (ni a) (by rw [hcat]; simp)
      have hao := (HG.out.inv.last hcat).1
      have han := HG.out.inv.lt a hao
      have HCAT := Lib.hid hcat
      obtain ⟨kt, hkt⟩ : ∃ kt, kt = l.length := ⟨_, rfl⟩
      rw [← hkt] at ct ca htl htc
      clear hkt hk htodo hA hg1 hg2 hcl hfz hcat hao htc
      have cts : ∀ q, (wr.drewN q).cell? ⟨S, 12290, none⟩ = some (.slice (some ⟨gT, 0, none⟩) (kt + 1) m'.tc) := fun q => ct
      have cas : ∀ q, (wr.drewN q).cell? ⟨gT, kt, none⟩ = some (ni a) := fun q => ca
      have hkt2 : kt ≤ 4096 := by omega
      have hwr : IntKind.i64.wrap (kt : Int) = (kt : Int) := by rw [IntKind.wrap_i64]; omega
      clear htl
      go_upto_region 2 with (fail)
      go_quiet (fail)
      obtain ⟨W2, hW2⟩ : ∃ W2, W2 = wr.drewN nq := ⟨_, rfl⟩
      rw [← hW2]
      have HG2 := Lib.hid (show Go_ W0 n S LB E v s G m' s' W2 from ⟨HG.out.meas, by rw [hW2]; exact HG.out.mem.drewN nq, HG.out.inv, HG.out.seen, HG.out.more⟩)
      clear hW2 HG cts cas ca ct hwr
      have hai : (a : Int) < (n : Int) := by omega
      have ha0 : (0 : Int) ≤ (a : Int) := by omega
      have hni : (n : Int) ≤ 4096 := by omega
      repeat (first | go_skip | go_guarded | go_step)
      go_loopg [5] (meas n s') (fun g _ wr => ∃ m2 s2, g ≤ G ∧ Go_ W0 n S LB E v s g m2 s2 wr ∧ s2.todo = l ++ [a])
      case atStart => exact ⟨m', s', HG2.out.meas, ⟨Nat.le_refl _, HG2.out.mem, HG2.out.inv, HG2.out.seen, HG2.out.more⟩, HCAT.out⟩
      case round =>
        obtain ⟨m2, s2, hgG, hg2, ht2⟩ := hrel
        have HG3 := Lib.hid hg2
        have HT3 := Lib.hid ht2
        have HGG := Lib.hid hgG
        have cl := hg2.mem.rd hg2.mem.cLeads
        obtain ⟨A, c, hc1, hc2, hc3⟩ := hg2.mem.leadRd han
        have HC3 := Lib.hid hc3
        clear hg2 ht2 hgG hc3
        cases hd : s2.leads a with
        | nil =>
          rw [hd] at hc1
          simp only [List.length_nil] at hc1
          have HD := Lib.hid hd
          clear hd hc2
          repeat (first | go_skip | go_guarded | go_step)
          refine (leave_go HE.out hn HG3.out HT3.out HD.out).mono ?_
          rintro e W3 ⟨rfl, k, m3, s3, hk3, hg3⟩
          have HG4 := Lib.hid hg3
          have HK4 := Lib.hid (show k < G from Nat.lt_of_lt_of_le hk3 HGG.out)
          clear hg3 hk3
          dsimp only
          repeat (first | go_skip | go_guarded | go_step)
          go_roundg k
          case measure => exact HK4.out
          case rel => exact ⟨m3, s3, HG4.out⟩
        | cons x r =>
          rw [hd] at hc1 hc2
          simp only [List.length_cons] at hc1 hc2
          have h3 := HC3.out
          rw [hd] at h3
          obtain ⟨b, o, rfl, hb1, hb2, hb3, hq0, hq⟩ := h3 (by simp)
          have cx : wr.cell? ⟨b, o, none⟩ = some (ni x) := hq 0 x rfl
          have hxn : x < n := HG3.out.inv.leads_lt HE.out (a := a) (by rw [hd]; simp)
          have hxi : (x : Int) < 4096 := by omega
          have HD := Lib.hid hd
          have HQ := Lib.hid hq0
          have HB := Lib.hid (And.intro hb1 (And.intro hb2 hb3))
          obtain ⟨y1, y2, y3⟩ := HG3.out.mem.far x (by omega)
          obtain ⟨k, hkr⟩ : ∃ k, k = r.length := ⟨_, rfl⟩
          rw [← hkr] at hc1 hc2
          have HKR := Lib.hid hkr
          have z1 := HG3.out.mem.rd y1
          have z2 := HG3.out.mem.rd y2
          have z3 := HG3.out.mem.rd y3
          clear hd h3 hq0 hq hb1 hb2 hb3 y1 y2 y3 hkr HC3
          obtain ⟨c0, hc0⟩ : ∃ c0, c0 = (s2.far x).1 := ⟨_, rfl⟩
          obtain ⟨b0, hb0⟩ : ∃ b0, b0 = (s2.far x).2.1 := ⟨_, rfl⟩
          obtain ⟨d0, hd0⟩ : ∃ d0, d0 = (s2.far x).2.2 := ⟨_, rfl⟩
          rw [← hc0] at z1
          rw [← hb0] at z2
          rw [← hd0] at z3
          have HF := Lib.hid (show s2.far x = (c0, b0, d0) by rw [hc0, hb0, hd0])
          clear hc0 hb0 hd0
          by_cases hwh : ((c0, b0, d0) : Far) = (0, 0, false)
          · have HWH := Lib.hid (show s2.far x = white by rw [HF.out, hwh]; rfl)
            simp only [Prod.mk.injEq] at hwh
            obtain ⟨w1e, w2e, w3e⟩ := hwh
            have z1' : wr.cell? ⟨S, x * 3, none⟩ = some (.int .i64 0) := by rw [z1, w1e]; rfl
            have z2' : wr.cell? ⟨S, x * 3 + 1, none⟩ = some (.int .i64 0) := by rw [z2, w2e]; rfl
            have z3' : wr.cell? ⟨S, x * 3 + 2, none⟩ = some (.bool false) := by rw [z3, w3e]
            clear w1e w2e w3e z1 z2 z3 HF
            repeat (first | go_skip | go_guarded | go_step)
            refine (come_go HE.out hn HG3.out HT3.out HD.out HWH.out).mono ?_
            rintro e W3 ⟨rfl, k, m3, s3, hk3, hg3⟩
            have HG4 := Lib.hid hg3
            have HK4 := Lib.hid (show k < G from Nat.lt_of_lt_of_le hk3 HGG.out)
            clear hg3 hk3
            dsimp only
            repeat (first | go_skip | go_guarded | go_step)
            go_roundg k
            case measure => exact HK4.out
            case rel => exact ⟨m3, s3, HG4.out⟩
          · have HNW := Lib.hid (show s2.far x ≠ white by rw [HF.out]; exact hwh)
            clear hwh
            by_cases hdk : ((c0, b0, d0) : Far) = (0, 0, true)
            · have HDK := Lib.hid (show s2.far x = dark by rw [HF.out, hdk]; rfl)
              simp only [Prod.mk.injEq] at hdk
              obtain ⟨w1e, w2e, w3e⟩ := hdk
              have z1' : wr.cell? ⟨S, x * 3, none⟩ = some (.int .i64 0) := by rw [z1, w1e]; rfl
              have z2' : wr.cell? ⟨S, x * 3 + 1, none⟩ = some (.int .i64 0) := by rw [z2, w2e]; rfl
              have z3' : wr.cell? ⟨S, x * 3 + 2, none⟩ = some (.bool true) := by rw [z3, w3e]
              clear w1e w2e w3e z1 z2 z3 HF
              have hfL := HG3.out.mem.lblk.frozen a
              have hci : (1 : Int) ≤ (c : Int) := by omega
              have hk1i : (1 : Int) ≤ (k : Int) + 1 := by omega
              repeat (first | go_skip | go_guarded | go_step)
              have HLOOK := Lib.hid (show lookL s2 a x r = { s2 with leads := upd s2.leads a r } by unfold lookL; rw [if_pos HDK.out])
              by_cases hc1e : c = 1
              · subst hc1e
                have hk0 : k = 0 := by omega
                subst hk0
                go_still_tail 14, (by kernel_rfl)
                repeat (first | go_skip | go_guarded | go_step)
                have hm3 := (HG3.out.mem.leadSet han (r := r) (A := some ⟨b, o, none⟩) (c := 0) (by rw [← HKR.out]; exact Nat.le_refl _) (by rw [← HKR.out]; intro e; omega)).drew
                rw [← HKR.out] at hm3
                obtain ⟨k2, hk2, hg4, ht4⟩ := look_go HG3.out HT3.out HD.out HNW.out (by rw [HLOOK.out]; exact hm3)
                go_roundg k2
                case measure => exact hk2
                case rel => exact ⟨_, _, by have := HGG.out; omega, hg4, ht4⟩
              · have hc2e : ¬ (c : Int) = 1 := by omega
                go_still_tail 14, (by kernel_rfl)
                repeat (first | go_skip | go_guarded | go_step)
                have hm3 := (HG3.out.mem.leadSet han (r := r) (A := some ⟨b, o + 1, none⟩) (c := c - 1) (by rw [← HKR.out]; omega) (fun _ => ⟨b, o + 1, rfl, HB.out.1, HB.out.2.1, HB.out.2.2, fun j v hj => by
                  have := HQ.out (j + 1) v (by rw [List.getElem?_cons_succ]; exact hj)
                  rw [show o + 1 + j = o + (j + 1) by omega]; exact this⟩)).drew
                rw [← HKR.out] at hm3
                obtain ⟨k2, hk2, hg4, ht4⟩ := look_go HG3.out HT3.out HD.out HNW.out (by rw [HLOOK.out]; exact hm3)
                go_roundg k2
                case measure => exact hk2
                case rel => exact ⟨_, _, by have := HGG.out; omega, hg4, ht4⟩
            · have HOP := Lib.hid (HG3.out.inv.mem_opn HNW.out (by rw [HF.out]; exact hdk))
              have hc1p : 1 ≤ c0 := by have := (HG3.out.inv.pos x HOP.out).1; rw [HF.out] at this; exact this
              have hd0 : d0 = false := by have := (HG3.out.inv.pos x HOP.out).2.2; rw [HF.out] at this; exact this
              have hcz : ¬ (c0 : Int) = 0 := by omega
              have hcz2 : ((c0 : Int) == 0) = false := by simpa using hcz
              clear hdk
              have ha4 : a < 4096 := by omega
              obtain ⟨ya1, ya2, ya3⟩ := HG3.out.mem.far a ha4
              have za1 := HG3.out.mem.rd ya2
              have zf1 := HG3.out.mem.fz (a * 3 + 1)
              obtain ⟨ba, hba⟩ : ∃ ba, ba = (s2.far a).2.1 := ⟨_, rfl⟩
              rw [← hba] at za1
              have HBA := Lib.hid hba.symm
              have hai4 : (a : Int) < 4096 := by omega
              clear ya1 ya2 ya3 hba
              repeat (first | go_skip | go_guarded | go_step)
              rcases Nat.lt_trichotomy ba b0 with hlt | heq | hgt
              · have hlt1 : (ba : Int) < (b0 : Int) := by omega
                have hlt2 : ¬ (b0 : Int) < (ba : Int) := by omega
                have HMN := Lib.hid (show min ba b0 = ba from Nat.min_eq_left (by omega))
                have HMI := Lib.hid (show min (ba : Int) (b0 : Int) = (ba : Int) by omega)
                go_still_tail 21, (by kernel_rfl)
                go_upto_region 9 with (fail)
                try rw [HMI.out]
                obtain ⟨m5, W5, hW5, hm5, hlv⟩ : ∃ m5 W5, W5 = (wr.setCell ⟨S, a * 3 + 1, none⟩ (ni (ba))).drew ∧ SeM W0 n S LB m5 W5 { s2 with far := upd s2.far a ((s2.far a).1, ba, (s2.far a).2.2) } ∧ m5.lv = m2.lv := ⟨_, _, rfl, (HG3.out.mem.backSet ha4 (ba)).drew, rfl⟩
                rw [← hW5]
                have cl5 := hm5.rd hm5.cLeads
                have hc5 : W5.cell? ⟨LB, a, none⟩ = some (.slice (some ⟨b, o, none⟩) (k + 1) c) := by
                  rw [hm5.lblk.cell a, hlv, ← HG3.out.mem.lblk.cell a]; exact hc1
                have HM5 := Lib.hid hm5
                have hfL := HM5.out.lblk.frozen a
                have hci : (1 : Int) ≤ (c : Int) := by omega
                have hk1i : (1 : Int) ≤ (k : Int) + 1 := by omega
                have HLOOK := Lib.hid (show lookL s2 a x r = { ({ s2 with far := upd s2.far a ((s2.far a).1, ba, (s2.far a).2.2) } : Se) with leads := upd s2.leads a r } by
                  unfold lookL
                  rw [if_neg (HG3.out.inv.notDark HOP.out), HBA.out, HF.out]
                  simp only [HMN.out])
                clear hm5 hW5 hlv cl hc1 za1 zf1 z1 z2 z3
                by_cases hc1e : c = 1
                · subst hc1e
                  have hk0 : k = 0 := by omega
                  subst hk0
                  go_still_tail 14, (by kernel_rfl)
                  repeat (first | go_skip | go_guarded | go_step)
                  have hm3 := (HM5.out.leadSet han (r := r) (A := some ⟨b, o, none⟩) (c := 0) (by rw [← HKR.out]; exact Nat.le_refl _) (by rw [← HKR.out]; intro e; omega)).drew
                  rw [← HKR.out] at hm3
                  obtain ⟨k2, hk2, hg4, ht4⟩ := look_go HG3.out HT3.out HD.out HNW.out (by rw [HLOOK.out]; exact hm3)
                  go_roundg k2
                  case measure => exact hk2
                  case rel => exact ⟨_, _, by have := HGG.out; omega, hg4, ht4⟩
                · have hc2e : ¬ (c : Int) = 1 := by omega
                  go_still_tail 14, (by kernel_rfl)
                  repeat (first | go_skip | go_guarded | go_step)
                  have hm3 := (HM5.out.leadSet han (r := r) (A := some ⟨b, o + 1, none⟩) (c := c - 1) (by rw [← HKR.out]; omega) (fun _ => ⟨b, o + 1, rfl, HB.out.1, HB.out.2.1, HB.out.2.2, fun j v hj => by
                    have := HQ.out (j + 1) v (by rw [List.getElem?_cons_succ]; exact hj)
                    rw [show o + 1 + j = o + (j + 1) by omega]; exact this⟩)).drew
                  rw [← HKR.out] at hm3
                  obtain ⟨k2, hk2, hg4, ht4⟩ := look_go HG3.out HT3.out HD.out HNW.out (by rw [HLOOK.out]; exact hm3)
                  go_roundg k2
                  case measure => exact hk2
                  case rel => exact ⟨_, _, by have := HGG.out; omega, hg4, ht4⟩
              · subst heq
                have hlt2 : ¬ (ba : Int) < (ba : Int) := by omega
                have HMN := Lib.hid (show min ba ba = ba from Nat.min_self _)
                have HMI := Lib.hid (show min (ba : Int) (ba : Int) = (ba : Int) by omega)
                go_still_tail 21, (by kernel_rfl)
                go_upto_region 9 with (fail)
                try rw [HMI.out]
                obtain ⟨m5, W5, hW5, hm5, hlv⟩ : ∃ m5 W5, W5 = (wr.setCell ⟨S, a * 3 + 1, none⟩ (ni (ba))).drew ∧ SeM W0 n S LB m5 W5 { s2 with far := upd s2.far a ((s2.far a).1, ba, (s2.far a).2.2) } ∧ m5.lv = m2.lv := ⟨_, _, rfl, (HG3.out.mem.backSet ha4 (ba)).drew, rfl⟩
                rw [← hW5]
                have cl5 := hm5.rd hm5.cLeads
                have hc5 : W5.cell? ⟨LB, a, none⟩ = some (.slice (some ⟨b, o, none⟩) (k + 1) c) := by
                  rw [hm5.lblk.cell a, hlv, ← HG3.out.mem.lblk.cell a]; exact hc1
                have HM5 := Lib.hid hm5
                have hfL := HM5.out.lblk.frozen a
                have hci : (1 : Int) ≤ (c : Int) := by omega
                have hk1i : (1 : Int) ≤ (k : Int) + 1 := by omega
                have HLOOK := Lib.hid (show lookL s2 a x r = { ({ s2 with far := upd s2.far a ((s2.far a).1, ba, (s2.far a).2.2) } : Se) with leads := upd s2.leads a r } by
                  unfold lookL
                  rw [if_neg (HG3.out.inv.notDark HOP.out), HBA.out, HF.out]
                  simp only [HMN.out])
                clear hm5 hW5 hlv cl hc1 za1 zf1 z1 z2 z3
                by_cases hc1e : c = 1
                · subst hc1e
                  have hk0 : k = 0 := by omega
                  subst hk0
                  go_still_tail 14, (by kernel_rfl)
                  repeat (first | go_skip | go_guarded | go_step)
                  have hm3 := (HM5.out.leadSet han (r := r) (A := some ⟨b, o, none⟩) (c := 0) (by rw [← HKR.out]; exact Nat.le_refl _) (by rw [← HKR.out]; intro e; omega)).drew
                  rw [← HKR.out] at hm3
                  obtain ⟨k2, hk2, hg4, ht4⟩ := look_go HG3.out HT3.out HD.out HNW.out (by rw [HLOOK.out]; exact hm3)
                  go_roundg k2
                  case measure => exact hk2
                  case rel => exact ⟨_, _, by have := HGG.out; omega, hg4, ht4⟩
                · have hc2e : ¬ (c : Int) = 1 := by omega
                  go_still_tail 14, (by kernel_rfl)
                  repeat (first | go_skip | go_guarded | go_step)
                  have hm3 := (HM5.out.leadSet han (r := r) (A := some ⟨b, o + 1, none⟩) (c := c - 1) (by rw [← HKR.out]; omega) (fun _ => ⟨b, o + 1, rfl, HB.out.1, HB.out.2.1, HB.out.2.2, fun j v hj => by
                    have := HQ.out (j + 1) v (by rw [List.getElem?_cons_succ]; exact hj)
                    rw [show o + 1 + j = o + (j + 1) by omega]; exact this⟩)).drew
                  rw [← HKR.out] at hm3
                  obtain ⟨k2, hk2, hg4, ht4⟩ := look_go HG3.out HT3.out HD.out HNW.out (by rw [HLOOK.out]; exact hm3)
                  go_roundg k2
                  case measure => exact hk2
                  case rel => exact ⟨_, _, by have := HGG.out; omega, hg4, ht4⟩
              · have hlt1 : (b0 : Int) < (ba : Int) := by omega
                have hlt2 : ¬ (ba : Int) < (b0 : Int) := by omega
                have HMN := Lib.hid (show min ba b0 = b0 from Nat.min_eq_right (by omega))
                have HMI := Lib.hid (show min (ba : Int) (b0 : Int) = (b0 : Int) by omega)
                go_still_tail 21, (by kernel_rfl)
                go_upto_region 9 with (fail)
                try rw [HMI.out]
                obtain ⟨m5, W5, hW5, hm5, hlv⟩ : ∃ m5 W5, W5 = (wr.setCell ⟨S, a * 3 + 1, none⟩ (ni (b0))).drew ∧ SeM W0 n S LB m5 W5 { s2 with far := upd s2.far a ((s2.far a).1, b0, (s2.far a).2.2) } ∧ m5.lv = m2.lv := ⟨_, _, rfl, (HG3.out.mem.backSet ha4 (b0)).drew, rfl⟩
                rw [← hW5]
                have cl5 := hm5.rd hm5.cLeads
                have hc5 : W5.cell? ⟨LB, a, none⟩ = some (.slice (some ⟨b, o, none⟩) (k + 1) c) := by
                  rw [hm5.lblk.cell a, hlv, ← HG3.out.mem.lblk.cell a]; exact hc1
                have HM5 := Lib.hid hm5
                have hfL := HM5.out.lblk.frozen a
                have hci : (1 : Int) ≤ (c : Int) := by omega
                have hk1i : (1 : Int) ≤ (k : Int) + 1 := by omega
                have HLOOK := Lib.hid (show lookL s2 a x r = { ({ s2 with far := upd s2.far a ((s2.far a).1, b0, (s2.far a).2.2) } : Se) with leads := upd s2.leads a r } by
                  unfold lookL
                  rw [if_neg (HG3.out.inv.notDark HOP.out), HBA.out, HF.out]
                  simp only [HMN.out])
                clear hm5 hW5 hlv cl hc1 za1 zf1 z1 z2 z3
                by_cases hc1e : c = 1
                · subst hc1e
                  have hk0 : k = 0 := by omega
                  subst hk0
                  go_still_tail 14, (by kernel_rfl)
                  repeat (first | go_skip | go_guarded | go_step)
                  have hm3 := (HM5.out.leadSet han (r := r) (A := some ⟨b, o, none⟩) (c := 0) (by rw [← HKR.out]; exact Nat.le_refl _) (by rw [← HKR.out]; intro e; omega)).drew
                  rw [← HKR.out] at hm3
                  obtain ⟨k2, hk2, hg4, ht4⟩ := look_go HG3.out HT3.out HD.out HNW.out (by rw [HLOOK.out]; exact hm3)
                  go_roundg k2
                  case measure => exact hk2
                  case rel => exact ⟨_, _, by have := HGG.out; omega, hg4, ht4⟩
                · have hc2e : ¬ (c : Int) = 1 := by omega
                  go_still_tail 14, (by kernel_rfl)
                  repeat (first | go_skip | go_guarded | go_step)
                  have hm3 := (HM5.out.leadSet han (r := r) (A := some ⟨b, o + 1, none⟩) (c := c - 1) (by rw [← HKR.out]; omega) (fun _ => ⟨b, o + 1, rfl, HB.out.1, HB.out.2.1, HB.out.2.2, fun j v hj => by
                    have := HQ.out (j + 1) v (by rw [List.getElem?_cons_succ]; exact hj)
                    rw [show o + 1 + j = o + (j + 1) by omega]; exact this⟩)).drew
                  rw [← HKR.out] at hm3
                  obtain ⟨k2, hk2, hg4, ht4⟩ := look_go HG3.out HT3.out HD.out HNW.out (by rw [HLOOK.out]; exact hm3)
                  go_roundg k2
                  case measure => exact hk2
                  case rel => exact ⟨_, _, by have := HGG.out; omega, hg4, ht4⟩
end Go.Proofs.Ytfmghkplafploaa

set_option linter.unusedVariables false
set_option linter.unusedSimpArgs false
namespace Go.Proofs.Ytfmghkplafploaa
open Go Go.RowKit

def far0 : List Value := (List.replicate 4096 [Value.int .i64 0, Value.int .i64 0, Value.bool false]).flatten
def seZ (A : Option Addr) (k c : Nat) : List Value := far0 ++ [.slice A k c, .int .i64 0, .slice none 0 0, .slice none 0 0, .slice none 0 0]
set_option maxRecDepth 1000000 in
theorem built58 (A : Option Addr) (k c : Nat) : Try.prog.built 94 [(1, .slice A k c)] = some (seZ A k c).toArray := by kernel_rfl
theorem far0_len : far0.length = 12288 := by
  unfold far0
  rw [List.length_flatten, List.map_replicate, List.sum_replicate_nat]
  rfl
/-! ### Edges in memory -/
def edC (e : Int × Int) : List Value := [.int .i64 e.1, .int .i64 e.2]
/-- A row of edges that is read; it lies below block B. -/
def RdE (w : World) (B : Nat) (A : Option Addr) (n : Nat) (E : List (Int × Int)) : Prop := Rd w B 2 A n (E.flatMap edC)
def ei (E : List (Nat × Nat)) : List (Int × Int) := E.map fun e => ((e.1 : Int), (e.2 : Int))
theorem ei_len (E : List (Nat × Nat)) : (ei E).length = E.length := by simp [ei]
theorem edFlat_len : ∀ E : List (Int × Int), (E.flatMap edC).length = E.length * 2
  | [] => rfl
  | e :: E => by rw [List.flatMap_cons, List.length_append, edFlat_len E, List.length_cons]; simp [edC]; omega
theorem edFlat_at : ∀ (E : List (Int × Int)) (i : Nat) (e : Int × Int), E[i]? = some e → (E.flatMap edC)[i * 2]? = some (.int .i64 e.1) ∧ (E.flatMap edC)[i * 2 + 1]? = some (.int .i64 e.2)
  | [], i, e, h => by simp at h
  | x :: E, 0, e, h => by
    simp only [List.getElem?_cons_zero, Option.some.injEq] at h
    subst h
    exact ⟨rfl, rfl⟩
  | x :: E, i + 1, e, h => by
    rw [List.getElem?_cons_succ] at h
    have := edFlat_at E i e h
    have e1 : (i + 1) * 2 = (i * 2) + 1 + 1 := by omega
    have e2 : (i + 1) * 2 + 1 = (i * 2 + 1) + 1 + 1 := by omega
    rw [List.flatMap_cons, e2, e1]
    exact this
theorem RdE.len {w : World} {B n : Nat} {A : Option Addr} {E : List (Int × Int)} (h : RdE w B A n E) : E.length = n := by
  have := h.1
  rw [edFlat_len] at this
  omega
theorem RdE.at_ {w : World} {B n : Nat} {A : Option Addr} {E : List (Int × Int)} (h : RdE w B A n E) {i : Nat} (hi : i < n) :
    ∃ b o e, A = some ⟨b, o, none⟩ ∧ b < B ∧ E[i]? = some e ∧ w.cell? ⟨b, o + i * 2, none⟩ = some (.int .i64 e.1) ∧ w.cell? ⟨b, o + i * 2 + 1, none⟩ = some (.int .i64 e.2) := by
  obtain ⟨b, o, hA, hb, hc⟩ := h.2 (by omega)
  have hl := h.len
  have he : E[i]? = some (E[i]'(by omega)) := List.getElem?_eq_getElem _
  obtain ⟨h1, h2⟩ := edFlat_at E i _ he
  refine ⟨b, o, _, hA, hb, he, hc _ _ h1, ?_⟩
  rw [Nat.add_assoc]
  exact hc _ _ h2
theorem RdE.below {w w' : World} {B n : Nat} {A : Option Addr} {E : List (Int × Int)} (h : RdE w B A n E) (hb : Below B w w') : RdE w' B A n E := Rd.below h hb
theorem RdE.more {w : World} {B B' n : Nat} {A : Option Addr} {E : List (Int × Int)} (h : RdE w B A n E) (hb : B ≤ B') : RdE w B' A n E := Rd.more h hb
theorem ei_at {E : List (Nat × Nat)} {i : Nat} {e : Int × Int} (h : (ei E)[i]? = some e) : ∃ x : Nat × Nat, E[i]? = some x ∧ e = ((x.1 : Int), (x.2 : Int)) := by
  unfold ei at h
  rw [List.getElem?_map] at h
  cases hx : E[i]? with
  | none => rw [hx] at h; cases h
  | some x => rw [hx] at h; exact ⟨x, rfl, by simpa using h.symm⟩

/-! ### Where the edges lead, in memory, as they are gathered -/
def outs (E : List (Nat × Nat)) (u : Nat) : List Nat := (E.filter fun e => e.1 == u).map (·.2)
theorem mem_outs {E : List (Nat × Nat)} {u v : Nat} : v ∈ outs E u ↔ (u, v) ∈ E := by
  unfold outs
  constructor
  · intro h
    obtain ⟨⟨a, b⟩, h1, h2⟩ := List.mem_map.1 h
    obtain ⟨h3, h4⟩ := List.mem_filter.1 h1
    have e1 : a = u := by simpa using h4
    have e2 : b = v := h2
    subst e1 e2
    exact h3
  · intro h
    exact List.mem_map.2 ⟨(u, v), List.mem_filter.2 ⟨h, by simp⟩, rfl⟩
theorem outs_snoc (E : List (Nat × Nat)) (a b u : Nat) : outs (E ++ [(a, b)]) u = if u = a then outs E u ++ [b] else outs E u := by
  unfold outs
  rw [List.filter_append, List.map_append]
  by_cases h : u = a
  · subst h; simp
  · have : ((a, b) :: ([] : List (Nat × Nat))).filter (fun e => e.1 == u) = [] := by
      simp; exact fun e => h e.symm
    rw [this, if_neg h]; simp
theorem outs_len (E : List (Nat × Nat)) (u : Nat) : (outs E u).length ≤ E.length := by
  unfold outs
  rw [List.length_map]
  exact List.length_filter_le _ _
structure Fil (w : World) (n S LB : Nat) (fA : Nat → Option Addr) (fc : Nat → Nat) (lv : List Value) (L : Nat → List Nat) (wr : World) : Prop where
  below : Below w.heap.size w wr
  hL : w.heap.size ≤ LB
  hS : LB < S
  blk : Bk wr S 94 (seZ (some ⟨LB, 0, none⟩) n n)
  lblk : Bk wr LB 43 lv
  llen : lv.length = n
  lead : ∀ u, u < n → lv[u]? = some (.slice (fA u) (L u).length (fc u)) ∧ OwI wr (S + 1) (fA u) (fc u) (L u).length (L u)
  ap : ∀ u v k, u < n → v < n → u ≠ v → blockOf (fA u) = some k → blockOf (fA v) ≠ some k
theorem seZ_at (A : Option Addr) (k c : Nat) : (seZ A k c)[12288]? = some (.slice A k c) ∧ (seZ A k c)[12289]? = some (ni 0) ∧ (seZ A k c)[12290]? = some (.slice none 0 0) ∧ (seZ A k c)[12291]? = some (.slice none 0 0) ∧ (seZ A k c)[12292]? = some (.slice none 0 0) := by
  unfold seZ
  refine ⟨?_, ?_, ?_, ?_, ?_⟩ <;> (rw [List.getElem?_append_right (by rw [far0_len]; omega), far0_len]; rfl)
theorem seZ_len (A : Option Addr) (k c : Nat) : (seZ A k c).length = 12293 := by unfold seZ; rw [List.length_append, far0_len]; rfl
theorem rep3_at (a b c : Value) : ∀ (n v : Nat), v < n → (List.replicate n [a, b, c]).flatten[v * 3]? = some a ∧ (List.replicate n [a, b, c]).flatten[v * 3 + 1]? = some b ∧ (List.replicate n [a, b, c]).flatten[v * 3 + 2]? = some c
  | 0, v, h => by omega
  | n + 1, 0, h => ⟨rfl, rfl, rfl⟩
  | n + 1, v + 1, h => by
    have := rep3_at a b c n v (by omega)
    have e1 : (v + 1) * 3 = (v * 3) + 1 + 1 + 1 := by omega
    have e2 : (v + 1) * 3 + 1 = (v * 3 + 1) + 1 + 1 + 1 := by omega
    have e3 : (v + 1) * 3 + 2 = (v * 3 + 2) + 1 + 1 + 1 := by omega
    rw [e3, e2, e1, List.replicate_succ, List.flatten_cons]
    exact this
theorem seZ_far (A : Option Addr) (k c v : Nat) (hv : v < 4096) : (seZ A k c)[v * 3]? = some (ni 0) ∧ (seZ A k c)[v * 3 + 1]? = some (ni 0) ∧ (seZ A k c)[v * 3 + 2]? = some (.bool false) := by
  unfold seZ
  have := rep3_at (.int .i64 0) (.int .i64 0) (.bool false) 4096 v hv
  rw [List.getElem?_append_left (by rw [far0_len]; omega), List.getElem?_append_left (by rw [far0_len]; omega), List.getElem?_append_left (by rw [far0_len]; omega)]
  exact this
/-- All edges were gathered: the search may begin. -/
theorem Fil.se {w wr : World} {n S LB : Nat} {fA : Nat → Option Addr} {fc : Nat → Nat} {lv : List Value} {L : Nat → List Nat} (h : Fil w n S LB fA fc lv L wr) :
    SeM wr n S LB ⟨none, 0, none, 0, none, 0, seZ (some ⟨LB, 0, none⟩) n n, lv, []⟩ wr ⟨fun _ => white, L, 0, [], [], []⟩ := by
  obtain ⟨z0, z1, z2, z3, z4⟩ := seZ_at (some ⟨LB, 0, none⟩) n n
  have hSl := h.blk.lt
  refine ⟨Turn.refl _ _, hSl, Nat.lt_trans h.hS hSl, by have := h.hS; omega, h.blk, seZ_len _ _ _, fun v hv => seZ_far _ _ _ v hv, z0, z1, z2, z3, z4, h.lblk, h.llen, ?_, OwI.nil _ _, OwI.nil _ _, World.ownsRow_nil _ _ _ _, rfl, ?_, ?_, ?_, ?_⟩
  · intro u hu
    obtain ⟨h1, h2⟩ := h.lead u hu
    refine ⟨fA u, fc u, h1, h2.le, fun hp => ?_⟩
    obtain ⟨g, e, hg, hlt, _, hc, _⟩ := ownSome h2 hp
    have := h.hS
    refine ⟨g, 0, e, hlt, by omega, by omega, fun j v hv => ?_⟩
    rw [Nat.zero_add]
    exact hc j (ni v) (by rw [List.getElem?_map]; exact congrArg (Option.map ni) hv)
  · intro i r p hr; simp at hr
  · intro k hk; exact absurd hk (by simp [blockOf])
  · intro k hk; exact absurd hk (by simp [blockOf])
  · intro r hr; simp at hr
/-- One edge more. -/
theorem Fil.step {w wr Z : World} {n S LB : Nat} {fA : Nat → Option Addr} {fc : Nat → Nat} {lv : List Value} {L : Nat → List Nat} (h : Fil w n S LB fA fc lv L wr) {a b : Nat} (ha : a < n) {A3 : Option Addr} {c3 : Nat}
    (T : Turn (fun k => blockOf (fA a) = some k) wr Z) (ho : OwI Z (S + 1) A3 c3 ((L a).length + 1) (L a ++ [b])) (hf : blockOf A3 = blockOf (fA a) ∨ ∃ k, blockOf A3 = some k ∧ wr.heap.size ≤ k) :
    Fil w n S LB (upd fA a A3) (upd fc a c3) (lv.set a (.slice A3 ((L a).length + 1) c3)) (upd L a (L a ++ [b])) (Z.setCell ⟨LB, a, none⟩ (.slice A3 ((L a).length + 1) c3)) := by
  have h1 := (h.lead a ha).2
  have hS := h.hS
  have hL := h.hL
  have hg : ∀ k, blockOf (fA a) = some k → S + 1 ≤ k ∧ k < wr.heap.size := fun k hk => own_low h1 hk
  obtain ⟨Y, hY⟩ : ∃ Y, Y = Z.setCell ⟨LB, a, none⟩ (.slice A3 ((L a).length + 1) c3) := ⟨_, rfl⟩
  have TY : Turn (fun k => k = LB) Z Y := by rw [hY]; exact (Turn.refl (fun k => k = LB) Z).setCell (p := ⟨LB, a, none⟩) (fun _ => rfl) _
  have TT : Turn (fun k => k = LB ∨ blockOf (fA a) = some k) wr Y := (T.mono fun k _ e => .inr e).then_ TY fun k _ e => .inl e
  rw [← hY]
  have hws : w.heap.size ≤ wr.heap.size := h.below.size
  refine ⟨h.below.trans (TT.below (B := w.heap.size) (fun k _ e => ?_) hws), hL, hS, TT.bk h.blk ?_, ?_, by rw [List.length_set]; exact h.llen, ?_, ?_⟩
  · rcases e with e | e
    · omega
    · have := hg k e; omega
  · rintro (e | e)
    · omega
    · have := hg S e; omega
  · rw [hY]
    exact (T.bk h.lblk fun e => by have := hg LB e; omega).set_ _ _
  · intro u hu
    by_cases e : u = a
    · subst e
      rw [upd_same, upd_same, upd_same, List.length_append, List.length_singleton]
      exact ⟨List.getElem?_set_self (by rw [h.llen]; exact hu), turn_own TY ho fun k hk e => by have := (own_low ho hk).1; omega⟩
    · rw [upd_other e, upd_other e, upd_other e]
      obtain ⟨g1, g2⟩ := h.lead u hu
      refine ⟨(List.getElem?_set_ne (fun k => e k.symm)).trans g1, turn_own TT g2 fun k hk q => ?_⟩
      rcases q with q | q
      · have := (own_low g2 hk).1; omega
      · exact h.ap u a k hu ha e hk q
  · intro u v k hu hv hne hk
    by_cases e1 : u = a
    · subst e1
      rw [upd_same] at hk
      rw [upd_other (fun e => hne e.symm)]
      intro q
      rcases hf with f | ⟨j, f, hj⟩
      · exact h.ap u v k hu hv hne (f ▸ hk) q
      · rw [f] at hk
        have := Option.some.inj hk
        have := (own_low (h.lead v hv).2 q).2
        omega
    · rw [upd_other e1] at hk
      by_cases e2 : v = a
      · subst e2
        rw [upd_same]
        intro q
        rcases hf with f | ⟨j, f, hj⟩
        · exact h.ap u v k hu hv hne hk (f ▸ q)
        · rw [f] at q
          have := Option.some.inj q
          have := (own_low (h.lead u hu).2 hk).2
          omega
      · rw [upd_other e2]
        exact h.ap u v k hu hv hne hk
theorem Fil.later {w wr Z : World} {n S LB : Nat} {fA : Nat → Option Addr} {fc : Nat → Nat} {lv : List Value} {L : Nat → List Nat} (h : Fil w n S LB fA fc lv L wr) (hb : Below wr.heap.size wr Z) : Fil w n S LB fA fc lv L Z :=
  ⟨h.below.trans (hb.mono h.below.size), h.hL, h.hS, h.blk.later hb, h.lblk.later hb, h.llen, fun u hu => ⟨(h.lead u hu).1, ownBelow (h.lead u hu).2 hb (Nat.le_refl _)⟩, h.ap⟩
end Go.Proofs.Ytfmghkplafploaa

