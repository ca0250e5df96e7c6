/- Texts, packed: StK -/
import Derived.Test.YtfmghkplafploaaGreatPzF
import Derived.Test.YtfmghkplafploaaGreatPzH
import Derived.Test.YtfmghkplafploaaGreatPzI
import Derived.Test.YtfmghkplafploaaGreatPzD
import Derived.Test.YtfmghkplafploaaGreatRows
set_option linter.unusedVariables false
set_option linter.unusedSimpArgs false
namespace Go.Proofs.YtfmghkplafploaaGreat
open Go Go.RowKit

/-- What is asked of the program's package strat. -/
structure StratOk : Prop where
  levels : ∀ (A : Option Addr) (n c : Nat) (Q : List ClA) (C : List Cl) (w : World), RdCs w w.heap.size A n Q C → n ≤ c → Slim C → n ≤ 1000 →
    Calls Tryz.prog 8 #[.slice A n c] w fun e w' => ∃ (er : Nat) (A' : Option Addr) (c' : Nat) (L : List Lv), e = .returned (.tuple #[.slice A' L.length c', .int .i64 (er : Int)]) ∧ LevTold C er L ∧ RdV w' w'.heap.size A' L.length L ∧ Below w.heap.size w w'
  strata : ∀ (A : Option Addr) (n c : Nat) (Q : List ClA) (C : List Cl) (w : World), RdCs w w.heap.size A n Q C → n ≤ c → Slim C → n ≤ 1000 →
    Calls Tryz.prog 10 #[.slice A n c] w fun e w' => ∃ (er : Nat) (A' : Option Addr) (c' : Nat) (S : List (List Nat)) (R : List SlA), e = .returned (.tuple #[.slice A' S.length c', .int .i64 (er : Int)]) ∧ StrTold C er S ∧ RdS w' w'.heap.size A' S.length R S ∧ Below w.heap.size w w'
/-- The anchor. -/
def TWorksOk : Prop := ∀ w : World, Calls Tryz.prog 7 #[] w fun e w' => e = .returned (.bool true) ∧ Below w.heap.size w w'
theorem LevTold.len {C : List Cl} {e : Nat} {L : List Lv} (h : LevTold C e L) : L.length ≤ (prL C).length := by
  cases h with
  | wrong _ => exact Nat.zero_le _
  | none _ _ => exact Nat.zero_le _
  | some _ _ h3 h4 _ =>
    have := nodup_len (sorted_nodup h3) fun x hx => (h4 x).1 hx
    rwa [List.length_map] at this
theorem StrTold.lens {C : List Cl} {e : Nat} {S : List (List Nat)} (h : StrTold C e S) : S.length ≤ (prL C).length ∧ ∀ s ∈ S, s.length ≤ C.length := by
  cases h with
  | bad _ _ => exact ⟨Nat.zero_le _, fun s hs => by cases hs⟩
  | good _ hl =>
    unfold strM
    rw [List.length_map, List.length_range]
    refine ⟨topM_le fun v hv => ?_, fun s hs => ?_⟩
    · obtain ⟨x, hx, rfl⟩ := List.mem_map.1 hv
      exact hl.lt (fun e he => edge_body he) (List.mem_flatMap.2 ⟨x, hx, by unfold prC; simp⟩)
    · obtain ⟨k, _, rfl⟩ := List.mem_map.1 hs
      exact Nat.le_trans (rowM_len _ k) (by unfold headsM; rw [List.length_map]; exact Nat.le_refl _)
theorem pr_bound {C : List Cl} (hS : Slim C) (hn : C.length ≤ 100000) : (prL C).length ≤ 500000000000 := by
  have h1 := prL_len fun x hx => (hS x hx).2.1
  have : C.length * 1000001 ≤ 100000 * 1000001 := Nat.mul_le_mul_right _ hn
  omega
theorem eqV (p : UInt32) (v : Int) (W : World) : (Op.equalIn 10000 34 (.agg #[nv p, .int .i64 v]) (.agg #[nv p, .int .i64 v])).run Tryz.prog W = .ok true W := by
  go_simp
  try simp
set_option maxRecDepth 100000 in
set_option maxHeartbeats 1000000 in
theorem lof_any (A : Option Addr) (n c : Nat) (X : List Lv) (p : UInt32) (w : World) (h : RdV w w.heap.size A n X) (hn : n ≤ 1000000000000) :
    Calls Tryz.prog 15 #[.slice A n c, nv p] w fun e w' => e = .returned (.int .i64 (ofM X p)) ∧ w' = w := by
  have HX := Lib.hid h
  have HL := Lib.hid (rdV_len h)
  clear h
  go_enter Tryz.func15, Tryz.ntmps15
  repeat (first | go_skip | go_guarded | go_step)
  go_loop [5] (fun q => ∃ i : Nat, i ≤ n ∧ q = .int .i64 (i : Int) ∧ p ∉ (X.take i).map (·.1)) (fun q => n - (intOf q).toNat)
  case atStart => exact ⟨0, by omega, rfl, by simp⟩
  case round =>
    obtain ⟨i, hi, rfl, hno⟩ := hrel
    have HNO := Lib.hid hno
    clear hno
    by_cases hlt : i < n
    · have hci : (i : Int) < (n : Int) := by omega
      obtain ⟨b, o, x, hA, hb, hx, hc0, hc1⟩ := rdV_at HX.out hlt
      subst hA
      obtain ⟨q, v⟩ := x
      dsimp only at hc0 hc1
      have HXI := Lib.hid hx
      clear hx hb
      by_cases hp : q = p
      · have hd : ((q.toNat : Int) == (p.toNat : Int)) = true := by subst hp; simp
        have HP := Lib.hid hp
        clear hp
        repeat (first | go_skip | go_guarded | go_step)
        go_ret
        exact ⟨by rw [ofM_drop HXI.out HNO.out, if_pos HP.out]; rfl, rfl⟩
      · have hd := u32ne' hp
        have HP := Lib.hid hp
        clear hp
        repeat (first | go_skip | go_guarded | go_step)
        go_round
        case rel => exact ⟨i + 1, by omega, by go_num, by
          rw [List.take_add_one, HXI.out, List.map_append, List.mem_append]
          rintro (h | h)
          · exact HNO.out h
          · simp at h; exact HP.out h.symm⟩
        case measure => simp [intOf]; omega
    · obtain rfl : n = i := by omega
      have hci : ¬ (n : Int) < (n : Int) := by omega
      repeat (first | go_skip | go_guarded | go_step)
      go_ret
      exact ⟨by rw [ofM_out (by have := HNO.out; rwa [List.take_of_length_le (by rw [HL.out]; exact Nat.le_refl _)] at this)]; rfl, rfl⟩
end Go.Proofs.YtfmghkplafploaaGreat

