/- Layer 9 (graph): few, right, works. -/
import Derived.Test.YtbfagejdpbagjaaGrR
set_option linter.unusedVariables false
set_option linter.unusedSimpArgs false
namespace Go.Proofs.Ytbfagejdpbagjaa
open Go Go.RowKit

/-! ### Small graphs, reckoned -/
def grow (E : List (Nat × Nat)) (S : List Nat) : List Nat := S ++ (E.filter fun e => S.contains e.1).map (·.2)
def reach (E : List (Nat × Nat)) (u : Nat) : Nat → List Nat
  | 0 => [u]
  | k + 1 => grow E (reach E u k)
theorem reach_sound {E : List (Nat × Nat)} {u v : Nat} : ∀ k, v ∈ reach E u k → Com E u v
  | 0, h => by
    simp only [reach, List.mem_singleton] at h
    subst h
    exact .refl
  | k + 1, h => by
    simp only [reach, grow, List.mem_append, List.mem_map, List.mem_filter] at h
    rcases h with h | ⟨⟨a, b⟩, ⟨h1, h2⟩, rfl⟩
    · exact reach_sound k h
    · exact (reach_sound k (by simpa using h2)).step h1
theorem reach_self {E : List (Nat × Nat)} {u : Nat} : ∀ k, u ∈ reach E u k
  | 0 => by simp [reach]
  | k + 1 => List.mem_append_left _ (reach_self k)
def shutB (E : List (Nat × Nat)) (k n : Nat) : Bool := (List.range n).all fun u => E.all fun e => !(reach E u k).contains e.1 || (reach E u k).contains e.2
theorem reach_iff {E : List (Nat × Nat)} {k n u v : Nat} (h : shutB E k n = true) (hu : u < n) : Com E u v ↔ (reach E u k).contains v = true := by
  unfold shutB at h
  rw [List.all_eq_true] at h
  have h1 := h u (List.mem_range.2 hu)
  rw [List.all_eq_true] at h1
  constructor
  · intro hc
    rw [List.contains_iff_mem]
    refine hc.closed (S := fun x => x ∈ reach E u k) (fun a b ha he => ?_) (reach_self k)
    have := h1 (a, b) he
    simp only [Bool.or_eq_true, Bool.not_eq_true', List.contains_iff_mem, ← Bool.not_eq_true] at this
    rcases this with q | q
    · exact absurd ha q
    · exact q
  · intro hv
    exact reach_sound k (by simpa using hv)
def cR (E : List (Nat × Nat)) (k u v : Nat) : Bool := (reach E u k).contains v
def sinkR (E : List (Nat × Nat)) (k n : Nat) (T : List Nat) (v : Nat) : Bool := decide (v < n) && !T.contains v && (List.range n).all fun u => T.contains u || !cR E k v u || cR E k u v
theorem sinkR_iff {E : List (Nat × Nat)} {k n : Nat} (h : shutB E k n = true) {T : List Nat} {v : Nat} : Sink n E T v ↔ sinkR E k n T v = true := by
  unfold Sink sinkR
  simp only [Bool.and_eq_true, decide_eq_true_eq, Bool.not_eq_true', List.all_eq_true, List.mem_range, Bool.or_eq_true, and_assoc]
  constructor
  · rintro ⟨h1, h2, h3⟩
    refine ⟨h1, by rw [← Bool.not_eq_true, List.contains_iff_mem]; exact h2, fun u hu => ?_⟩
    by_cases hT : u ∈ T
    · exact .inl (.inl (List.contains_iff_mem.2 hT))
    · by_cases hc : cR E k v u = true
      · exact .inr ((reach_iff h hu).1 (h3 u hu hT ((reach_iff h h1).2 hc)))
      · exact .inl (.inr (by simpa using hc))
  · rintro ⟨h1, h2, h3⟩
    refine ⟨h1, by rw [← List.contains_iff_mem, Bool.not_eq_true]; exact h2, fun u hu hT hc => ?_⟩
    rcases h3 u hu with (q | q) | q
    · exact absurd (List.contains_iff_mem.1 q) hT
    · have := (reach_iff h h1).1 hc
      unfold cR at q
      rw [q] at this
      cases this
    · exact (reach_iff h hu).2 q
def partR (E : List (Nat × Nat)) (k n v : Nat) : List Nat := (List.range n).filter fun u => cR E k v u && cR E k u v
open Classical in
theorem partR_eq {E : List (Nat × Nat)} {k n v : Nat} (h : shutB E k n = true) (hv : v < n) : part n E v = partR E k n v := by
  unfold part partR
  refine List.filter_congr fun u hu => ?_
  have hu' := List.mem_range.1 hu
  rw [Bool.eq_iff_iff, decide_eq_true_iff, Bool.and_eq_true]
  exact ⟨fun q => ⟨(reach_iff h hv).1 q.1, (reach_iff h hu').1 q.2⟩, fun q => ⟨(reach_iff h hv).2 q.1, (reach_iff h hu').2 q.2⟩⟩
def ordOk (E : List (Nat × Nat)) (k n : Nat) : List Nat → List (List Nat) → Bool
  | T, [] => (List.range n).all fun v => !sinkR E k n T v
  | T, p :: L => match (List.range n).find? (sinkR E k n T) with
    | none => false
    | some v => decide (p = partR E k n v) && ((List.range v).all fun u => !sinkR E k n T u) && ordOk E k n (T ++ p) L
theorem ordOk_order {E : List (Nat × Nat)} {k n : Nat} (h : shutB E k n = true) : ∀ (L : List (List Nat)) (T : List Nat), ordOk E k n T L = true → Order n E T L
  | [], T, ho => .done fun v hs => by
    unfold ordOk at ho
    rw [List.all_eq_true] at ho
    have h1 := ho v (List.mem_range.2 hs.1)
    rw [(sinkR_iff h).1 hs] at h1
    cases h1
  | p :: L, T, ho => by
    unfold ordOk at ho
    cases hf : (List.range n).find? (sinkR E k n T) with
    | none => rw [hf] at ho; cases ho
    | some v =>
      rw [hf] at ho
      simp only [Bool.and_eq_true, decide_eq_true_eq, List.all_eq_true, List.mem_range] at ho
      obtain ⟨⟨h1, h2⟩, h3⟩ := ho
      have hs := (sinkR_iff h).2 (List.find?_some hf)
      rw [← partR_eq h hs.1] at h1
      subst h1
      exact .next ⟨hs, fun u hu hsu => by
        have := h2 u hu
        rw [(sinkR_iff h).1 hsu] at this
        cases this⟩ (ordOk_order h L _ h3)
theorem order_W1 : Order 4 [(0, 1), (1, 0), (1, 2)] [] [[2], [0, 1], [3]] := ordOk_order (k := 4) (by decide) _ _ (by decide)
theorem order_W2 : Order 3 [(0, 1), (1, 2)] [] [[2], [1], [0]] := ordOk_order (k := 4) (by decide) _ _ (by decide)

/-! ### few -/
set_option maxRecDepth 100000 in
theorem few_any (n : Int) (A : Option Addr) (ne c : Nat) (w : World) :
    Calls Try.prog 8 #[.int .i64 n, .slice A ne c] w fun e w' => e = .returned (.bool (decide (n ≤ 60 ∧ ne ≤ 300))) ∧ w' = w := by
  by_cases h1 : n ≤ 60
  · by_cases h2 : ne ≤ 300
    · have e : decide (n ≤ 60 ∧ ne ≤ 300) = true := decide_eq_true ⟨h1, h2⟩
      have h1' : decide (n ≤ 60) = true := decide_eq_true h1
      have h2' : (ne : Int) ≤ 300 := by omega
      rw [e]
      go_enter Try.func8, Try.ntmps8
      repeat (first | go_skip | go_guarded | go_step)
      go_ret
      exact ⟨rfl, rfl⟩
    · have e : decide (n ≤ 60 ∧ ne ≤ 300) = false := decide_eq_false (fun h => h2 h.2)
      have h1' : decide (n ≤ 60) = true := decide_eq_true h1
      have h2' : ¬ (ne : Int) ≤ 300 := by omega
      rw [e]
      go_enter Try.func8, Try.ntmps8
      repeat (first | go_skip | go_guarded | go_step)
      go_ret
      exact ⟨rfl, rfl⟩
  · have e : decide (n ≤ 60 ∧ ne ≤ 300) = false := decide_eq_false (fun h => h1 h.1)
    have h1' : decide (n ≤ 60) = false := decide_eq_false h1
    rw [e]
    go_enter Try.func8, Try.ntmps8
    repeat (first | go_skip | go_guarded | go_step)
    go_ret
    exact ⟨rfl, rfl⟩

/-! ### right -/
def rightB (n : Int) (ne : Nat) (E0 : List (Int × Int)) : Bool := decide (0 ≤ n) && decide (n ≤ 60 ∧ ne ≤ 300) && E0.all (okE n)
set_option maxRecDepth 100000 in
set_option maxHeartbeats 1000000 in
theorem right_any (n : Int) (A : Option Addr) (ne c : Nat) (E0 : List (Int × Int)) (w : World) (hr : RdE w w.heap.size A ne E0) :
    Calls Try.prog 15 #[.int .i64 n, .slice A ne c] w fun e w' => e = .returned (.bool (rightB n ne E0)) ∧ w' = w := by
  have HLEN := Lib.hid hr.len
  have HR := Lib.hid hr
  clear hr
  by_cases h0 : n < 0
  · have e : rightB n ne E0 = false := by unfold rightB; rw [decide_eq_false (by omega)]; rfl
    have h0' : decide (n < 0) = true := decide_eq_true h0
    rw [e]
    go_enter Try.func15, Try.ntmps15
    repeat (first | go_skip | go_guarded | go_step)
    go_ret
    exact ⟨rfl, rfl⟩
  have h0' : decide (n < 0) = false := decide_eq_false h0
  have hfew := few_any n A ne c w
  by_cases hf : n ≤ 60 ∧ ne ≤ 300
  · have e : rightB n ne E0 = E0.all (okE n) := by unfold rightB; rw [decide_eq_true (show 0 ≤ n by omega), decide_eq_true hf]; rfl
    rw [e]
    rw [decide_eq_true hf] at hfew
    obtain ⟨hf1, hf2⟩ := hf
    clear e
    go_enter Try.func15, Try.ntmps15
    repeat (first | go_skip | go_guarded | go_step)
    refine hfew.mono ?_
    rintro e w1 ⟨rfl, rfl⟩
    clear hfew
    dsimp only
    repeat (first | go_skip | go_guarded | go_step)
    go_loop [5] (fun q => ∃ i : Nat, i ≤ ne ∧ q = .int .i64 (i : Int) ∧ (E0.take i).all (okE n) = true) (fun q => ne - (intOf q).toNat)
    case atStart => exact ⟨0, by omega, rfl, by simp⟩
    case round =>
      obtain ⟨i, hi, rfl, hall⟩ := hrel
      have HALL := Lib.hid hall
      clear hall
      by_cases hlt : i < ne
      · have hii : (i : Int) < (ne : Int) := by omega
        obtain ⟨be, oe, ed, hA, hbe, he, hc0, hc1⟩ := HR.out.at_ hlt
        subst hA
        obtain ⟨a, b⟩ := ed
        have HX := Lib.hid he
        dsimp only at hc0 hc1
        clear he hbe
        have hFALSE : ¬ (0 ≤ a ∧ a < n ∧ 0 ≤ b ∧ b < n) → E0.all (okE n) = false := fun h => by
          rw [List.all_eq_false]
          exact ⟨(a, b), List.mem_of_getElem? HX.out, by unfold okE; simpa using h⟩
        have HFA := Lib.hid hFALSE
        clear hFALSE
        by_cases ha0 : a < 0
        · have k1 : decide (a < 0) = true := decide_eq_true ha0
          have HZ := Lib.hid (HFA.out (by omega))
          repeat (first | go_skip | go_guarded | go_step)
          go_ret
          exact ⟨by rw [HZ.out]; rfl, rfl⟩
        have ka : decide (a < 0) = false := decide_eq_false ha0
        by_cases ha1 : n ≤ a
        · have k1 : decide (n ≤ a) = true := decide_eq_true ha1
          have HZ := Lib.hid (HFA.out (by omega))
          repeat (first | go_skip | go_guarded | go_step)
          go_ret
          exact ⟨by rw [HZ.out]; rfl, rfl⟩
        have ka1 : decide (n ≤ a) = false := decide_eq_false ha1
        by_cases hb0 : b < 0
        · have k1 : decide (b < 0) = true := decide_eq_true hb0
          have HZ := Lib.hid (HFA.out (by omega))
          repeat (first | go_skip | go_guarded | go_step)
          go_ret
          exact ⟨by rw [HZ.out]; rfl, rfl⟩
        have kb : decide (b < 0) = false := decide_eq_false hb0
        by_cases hb1 : n ≤ b
        · have k1 : decide (n ≤ b) = true := decide_eq_true hb1
          have HZ := Lib.hid (HFA.out (by omega))
          repeat (first | go_skip | go_guarded | go_step)
          go_ret
          exact ⟨by rw [HZ.out]; rfl, rfl⟩
        have kb1 : decide (n ≤ b) = false := decide_eq_false hb1
        have HOK := Lib.hid (show okE n (a, b) = true by unfold okE; simp; omega)
        clear HFA
        repeat (first | go_skip | go_guarded | go_step)
        go_round
        case rel => exact ⟨i + 1, by omega, by go_num, by
          rw [List.take_add_one, HX.out, List.all_append, HALL.out]
          simpa using HOK.out⟩
        case measure => simp [intOf]; omega
      · obtain rfl : i = ne := by omega
        have hii : ¬ (i : Int) < (i : Int) := by omega
        have HF := Lib.hid (show E0.all (okE n) = true by
          have := HALL.out
          rwa [List.take_of_length_le (by rw [HLEN.out]; exact Nat.le_refl _)] at this)
        repeat (first | go_skip | go_guarded | go_step)
        go_ret
        exact ⟨by rw [HF.out]; rfl, rfl⟩
  · have e : rightB n ne E0 = false := by unfold rightB; rw [decide_eq_false hf]; simp
    rw [e]
    rw [decide_eq_false hf] at hfew
    clear e hf
    go_enter Try.func15, Try.ntmps15
    repeat (first | go_skip | go_guarded | go_step)
    refine hfew.mono ?_
    rintro e w1 ⟨rfl, rfl⟩
    clear hfew
    dsimp only
    repeat (first | go_skip | go_guarded | go_step)
    go_ret
    exact ⟨rfl, rfl⟩
end Go.Proofs.Ytbfagejdpbagjaa
