/- GraphEnds: how many nodes and edges there may be. No condition. -/
import Derived.Test.YtbfagejdpbagjaaGrO
import Derived.Test.YtbfagejdpbagjaaGrY
set_option linter.unusedVariables false
set_option linter.unusedSimpArgs false
namespace Go.Proofs.Ytbfagejdpbagjaa.graphEnds
open Go Go.RowKit Go.ChangeShapes Go.WideShapes Go.ChangeAt

theorem made_ed (n : Nat) : (madeCells (Value.agg #[.int .i64 0, .int .i64 0]).cells (n * 2)).toList = (ei (List.replicate n (0, 0))).flatMap edC := by
  refine List.ext_getElem? fun j => ?_
  by_cases hj : j < n * 2
  · have h1 : (ei (List.replicate n (0, 0))).flatMap edC = List.replicate (n * 2) (Value.int .i64 0) := by
      clear hj
      induction n with
      | zero => rfl
      | succ n ih =>
        rw [List.replicate_succ]
        show edC _ ++ (ei (List.replicate n (0, 0))).flatMap edC = _
        rw [ih, show (n + 1) * 2 = n * 2 + 1 + 1 by omega, List.replicate_succ, List.replicate_succ]
        rfl
    rw [h1, List.getElem?_replicate, if_pos hj]
    have hc : (Value.agg #[.int .i64 0, .int .i64 0]).cells = #[.int .i64 0, .int .i64 0] := by kernel_rfl
    rw [hc]
    unfold madeCells
    rw [Array.getElem?_toList, Array.getElem?_map, Array.getElem?_range, if_pos hj]
    rcases Nat.mod_two_eq_zero_or_one j with h | h
    · show some (#[Value.int .i64 0, Value.int .i64 0][j % 2]!) = _
      rw [h]; rfl
    · show some (#[Value.int .i64 0, Value.int .i64 0][j % 2]!) = _
      rw [h]; rfl
  · rw [List.getElem?_eq_none (by rw [Array.length_toList, size_madeCells]; omega), List.getElem?_eq_none (by rw [edFlat_len, ei_len, List.length_replicate]; omega)]
theorem order_len {n : Nat} {L : List (List Nat)} (h : Order n [] [] L) : L.length = n := (h.isParts fun e he => by simp at he).len_single
theorem rdNil (w : World) : RdE w w.heap.size none 0 [] := ⟨rfl, fun h => absurd h (by omega)⟩
theorem parts_ends (N c : Nat) (A : Option Addr) (w : World) (h : RdE w w.heap.size A N (ei (List.replicate N (0, 0)))) (hN : N ≤ 16384) :
    Calls Try.prog 10 #[.int .i64 1, .slice A N c] w fun e w' => ∃ v, e = .returned (.tuple #[v, .int .i64 0]) ∧ Below w.heap.size w w' :=
  (parts_nat 1 (List.replicate N (0, 0)) A N c w h (by omega) (fun e he => by rw [List.eq_of_mem_replicate he]; exact ⟨Nat.one_pos, Nat.one_pos⟩) (by rw [List.length_replicate]; omega)).mono fun e w' ⟨_, _, _, _, he, _, _, _, hb⟩ => ⟨_, he, hb⟩
theorem parts_over (N c : Nat) (A : Option Addr) (w : World) (h : RdE w w.heap.size A N (ei (List.replicate N (0, 0)))) (hN : 16384 < N) :
    Calls Try.prog 10 #[.int .i64 1, .slice A N c] w fun e w' => ∃ v, e = .returned (.tuple #[v, .int .i64 6]) ∧ Below w.heap.size w w' :=
  (parts_any 1 A N c _ w h).mono fun e w' ⟨hb, hT⟩ => by
    have hl : (ei (List.replicate N (0, 0))).length = N := by rw [ei_len, List.length_replicate]
    rcases hT with ⟨_, he⟩ | ⟨⟨_, h1⟩, _⟩ | ⟨_, _, _, _, _, _, _, _, h1, _⟩
    · exact ⟨_, he, hb⟩
    · omega
    · omega
theorem parts_none (M : Nat) (w : World) (hM : M ≤ 4096) :
    Calls Try.prog 10 #[.int .i64 (M : Int), .slice none 0 0] w fun e w' => ∃ A c, e = .returned (.tuple #[.slice A M c, .int .i64 0]) ∧ Below w.heap.size w w' :=
  (parts_nat M [] none 0 0 w (rdNil w) hM (fun e he => by simp at he) (by simp)).mono fun e w' ⟨A, c, L, _, he, _, ho, _, hb⟩ => ⟨A, c, by rw [he, order_len ho], hb⟩
theorem parts_many (M : Nat) (w : World) (hM : 4096 < M) :
    Calls Try.prog 10 #[.int .i64 (M : Int), .slice none 0 0] w fun e w' => e = .returned (.tuple #[.slice none 0 0, .int .i64 6]) ∧ Below w.heap.size w w' :=
  (parts_any M none 0 0 [] w (rdNil w)).mono fun e w' ⟨hb, hT⟩ => by
    rcases hT with ⟨_, he⟩ | ⟨⟨h1, _⟩, _⟩ | ⟨k, _, _, _, _, _, h1, h2, _⟩
    · exact ⟨he, hb⟩
    · omega
    · omega
set_option maxRecDepth 100000 in
set_option maxHeartbeats 1000000 in
theorem walk (over : Int) (b : Bool) (w : World) (h1 : -128 ≤ over) (h2 : over ≤ 127) :
    Calls Try.prog 6 #[.int .i8 over, .bool b] w fun e w' => e = .returned (.bool true) ∧ Below w.heap.size w w' := by
  obtain ⟨i0, hi0, hz0, hz1, hz2⟩ := info_parts arr2Info
  obtain ⟨N, hN⟩ : ∃ N : Nat, 16384 + over = (N : Int) := ⟨(16384 + over).toNat, by omega⟩
  obtain ⟨M, hM⟩ : ∃ M : Nat, 4096 + over = (M : Int) := ⟨(4096 + over).toNat, by omega⟩
  have hb4 : i0.bytes * N ≤ 281474976710656 := by rw [hz2]; omega
  have hmx : N ≤ maxLen := by simp only [maxLen]; omega
  have hw1 : IntKind.i64.wrap (16384 + over) = (N : Int) := by rw [IntKind.wrap_i64]; omega
  have hw2 : IntKind.i64.wrap (4096 + over) = (M : Int) := by rw [IntKind.wrap_i64]; omega
  have hw0 : IntKind.i64.wrap over = over := by rw [IntKind.wrap_i64]; omega
  have HB := Lib.hid (Below.refl w.heap.size w)
  cases b with
  | true =>
    by_cases ho : over ≤ 0
    · have ho1 : decide (over ≤ 0) = true := decide_eq_true ho
      go_enter Try.func6, Try.ntmps6
      repeat (first
        | (at_make; refine wpList_make_full _ rfl (.tmp 13) (.tmp 13) 22 rfl w.heap.size 31 i0 _ 2 Try.underlying22 hi0 hz0 hz1 .i64 .i64 _ _ N rfl rfl (by first | rfl | omega) (by first | rfl | omega) hb4 hmx (Nat.le_refl _) ?_
           intro W1 hh1 hg1
           have HO1 := Lib.hid (show RdE W1 W1.heap.size (some ⟨w.heap.size, 0, none⟩) N (ei (List.replicate N (0, 0))) from by
             have := Rd.ofOwn hh1
             rw [made_ed] at this
             exact this)
           have HB1 := Lib.hid (HB.out.grown hg1 (Nat.le_refl _) (fun k hk => by cases hk))
           clear hh1 hg1)
        | go_skip | go_guarded | go_step)
      refine (parts_ends N N _ W1 HO1.out (by omega)).mono ?_
      rintro e w2 ⟨v, rfl, hb2⟩
      have HB2 := Lib.hid (HB1.out.trans (hb2.mono HB1.out.size))
      clear hb2 HB1 HO1
      dsimp only
      repeat (first | go_skip | go_guarded | go_step)
      refine (works_any _).mono ?_
      rintro e w3 ⟨rfl, hb3⟩
      have HB3 := Lib.hid (HB2.out.trans (hb3.mono HB2.out.size))
      clear hb3
      dsimp only
      repeat (first | go_skip | go_guarded | go_step)
      go_ret
      exact ⟨rfl, HB3.out⟩
    · have ho1 : decide (over ≤ 0) = false := decide_eq_false ho
      go_enter Try.func6, Try.ntmps6
      repeat (first
        | (at_make; refine wpList_make_full _ rfl (.tmp 13) (.tmp 13) 22 rfl w.heap.size 31 i0 _ 2 Try.underlying22 hi0 hz0 hz1 .i64 .i64 _ _ N rfl rfl (by first | rfl | omega) (by first | rfl | omega) hb4 hmx (Nat.le_refl _) ?_
           intro W1 hh1 hg1
           have HO1 := Lib.hid (show RdE W1 W1.heap.size (some ⟨w.heap.size, 0, none⟩) N (ei (List.replicate N (0, 0))) from by
             have := Rd.ofOwn hh1
             rw [made_ed] at this
             exact this)
           have HB1 := Lib.hid (HB.out.grown hg1 (Nat.le_refl _) (fun k hk => by cases hk))
           clear hh1 hg1)
        | go_skip | go_guarded | go_step)
      refine (parts_over N N _ W1 HO1.out (by omega)).mono ?_
      rintro e w2 ⟨v, rfl, hb2⟩
      have HB2 := Lib.hid (HB1.out.trans (hb2.mono HB1.out.size))
      clear hb2 HB1 HO1
      dsimp only
      repeat (first | go_skip | go_guarded | go_step)
      refine (works_any _).mono ?_
      rintro e w3 ⟨rfl, hb3⟩
      have HB3 := Lib.hid (HB2.out.trans (hb3.mono HB2.out.size))
      clear hb3
      dsimp only
      repeat (first | go_skip | go_guarded | go_step)
      go_ret
      exact ⟨rfl, HB3.out⟩
  | false =>
    by_cases ho : 0 < over
    · have ho1 : decide (0 < over) = true := decide_eq_true ho
      go_enter Try.func6, Try.ntmps6
      repeat (first | go_skip | go_guarded | go_step)
      refine (parts_many M w (by omega)).mono ?_
      rintro e w2 ⟨rfl, hb2⟩
      have HB2 := Lib.hid hb2
      clear hb2
      dsimp only
      repeat (first | go_skip | go_guarded | go_step)
      refine (works_any _).mono ?_
      rintro e w3 ⟨rfl, hb3⟩
      have HB3 := Lib.hid (HB2.out.trans (hb3.mono HB2.out.size))
      clear hb3
      dsimp only
      repeat (first | go_skip | go_guarded | go_step)
      go_ret
      exact ⟨rfl, HB3.out⟩
    · have ho1 : decide (0 < over) = false := decide_eq_false ho
      go_enter Try.func6, Try.ntmps6
      repeat (first | go_skip | go_guarded | go_step)
      refine (parts_none M w (by omega)).mono ?_
      rintro e w2 ⟨A, c, rfl, hb2⟩
      have HB2 := Lib.hid hb2
      clear hb2
      dsimp only
      repeat (first | go_skip | go_guarded | go_step)
      refine (works_any _).mono ?_
      rintro e w3 ⟨rfl, hb3⟩
      have HB3 := Lib.hid (HB2.out.trans (hb3.mono HB2.out.size))
      clear hb3
      dsimp only
      repeat (first | go_skip | go_guarded | go_step)
      go_ret
      exact ⟨rfl, HB3.out⟩

set_option maxRecDepth 100000 in
theorem lifted (os : Os) (started : os.Started) (H : Type) (enc : TypeId × Value → H) :
    ReturnsInHanded {} Try.checked os 6 .any (Rows.graphEndsSpec.pre6 enc Try.prog Try.f6 Rows.graphEndsRow.domain false) (Rows.graphEndsSpec.post enc Try.prog Try.f6 false true false false) := by
  refine returnsInHanded_of_change_sized (C := Try.checked) ownK started (by kernel_rfl) Try.func6
    (ChangeSpec.witness6 (enc := enc) (C := Try.checked) false ⟨#[], #[.int .i8 0, .bool false], []⟩ 8 (by kernel_rfl) (by kernel_rfl) (by kernel_rfl) (by kernel_rfl)) ?_
  intro W base args ds gs before hval0 hW hcnd hsz0 _
  have hval : ∀ (j : Nat) t v, Try.f6.params[j]? = some t → args[j]? = some v → Value.okWide Try.prog W .any base t v := hval0
  have hlt : ∀ x ∈ before, x.block < W.heap.size := fun x hx => by simpa using hW.lt x hx
  have hW' := hW
  obtain ⟨p, q, hA0, hV, rfl, hfz, hnd⟩ := hW
  have hA : DataW.TrodAll enc Try.prog W 0 (fun _ => true) true Try.f6.params.toList args.toList ds p := hA0
  rw [Try.params6] at hA hval
  obtain ⟨v0, vs0, d0, ds0, p0, q0, hargs, rfl, rfl, h0, r0⟩ := trodAll_cons hA
  obtain ⟨v1, vs1, d1, ds1, p1, q1, rfl, rfl, rfl, h1, r1⟩ := trodAll_cons r0
  obtain ⟨rfl, rfl, rfl⟩ := trodAll_nil r1
  obtain rfl : args = #[v0, v1] := by cases args; simp_all
  obtain ⟨rfl, rfl⟩ := trodVars_none hV
  obtain ⟨full, rfl, rfl, rfl⟩ := Go.RowKit.open_bool Try.underlying4 (hval 1 4 v1 rfl rfl) h1
  obtain ⟨over, rfl, rfl, rfl, wover⟩ := open_int Try.underlying37 (hval 0 37 v0 rfl rfl) h0
  have bover := bounds_i8 wover
  refine (walk over full W bover.1 bover.2).mono fun e W' ⟨he, hg⟩ => ?_
  subst he
  exact ⟨_, rfl, post_law laidOut rfl (by kernel_rfl) hW' hg rfl Try.underlying4 rfl rfl rfl⟩

theorem proved : Rows.GraphEndsSaid :=
  OpenClaim.holds_of_wide 6 Try.f6 rfl rfl rfl rfl rfl rfl rfl ⟨rfl, rfl, rfl, rfl, rfl⟩ rfl rfl rfl rfl rfl (by kernel_rfl) Try.func6 (by kernel_rfl)
    (of_decide_eq_true (by kernel_rfl)) (by unfold Func.isWrapper; first | (rw [if_pos (by decide +kernel)]; kernel_rfl) | (rw [if_neg (by decide +kernel)]; exact ⟨rfl, rfl⟩))
    (fun os started H enc _ => lifted os started H enc)
#print axioms proved
end Go.Proofs.Ytbfagejdpbagjaa.graphEnds
