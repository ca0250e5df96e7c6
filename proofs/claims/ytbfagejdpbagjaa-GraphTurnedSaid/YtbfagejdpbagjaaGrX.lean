/- Layer 9 (graph): works. -/
import Derived.Test.YtbfagejdpbagjaaGrW
set_option linter.unusedVariables false
set_option linter.unusedSimpArgs false
namespace Go.Proofs.Ytbfagejdpbagjaa
open Go Go.RowKit

theorem arr2Info : (Try.prog.info? 31).map (fun i => (i.zero, i.size, i.bytes)) = some (some (.agg #[.int .i64 0, .int .i64 0]), 2, 16) := by kernel_rfl
abbrev ag (a b : Int) : Value := .agg #[.int .i64 a, .int .i64 b]
theorem run_litE1 (a b : Int) (w : World) : (Instr.buildSlice 22 1 #[(0, ag a b)]).run Try.prog w = .ok (.slice (some ⟨w.heap.size, 0, none⟩) 1 1) (w.alloc (.cells #[.int .i64 a, .int .i64 b] 31)) := by
  obtain ⟨i0, hi, hz0, hz1, hz2⟩ := info_parts arr2Info
  simp [Instr.buildSlice, run_underlying Try.underlying22, sizeOf, typeInfo, zeroValue, hi, hz0, hz1, newRow, Instr.fill]
  kernel_rfl
theorem run_litE2 (a b c d : Int) (w : World) : (Instr.buildSlice 22 2 #[(0, ag a b), (1, ag c d)]).run Try.prog w = .ok (.slice (some ⟨w.heap.size, 0, none⟩) 2 2) (w.alloc (.cells #[.int .i64 a, .int .i64 b, .int .i64 c, .int .i64 d] 31)) := by
  obtain ⟨i0, hi, hz0, hz1, hz2⟩ := info_parts arr2Info
  simp [Instr.buildSlice, run_underlying Try.underlying22, sizeOf, typeInfo, zeroValue, hi, hz0, hz1, newRow, Instr.fill]
  kernel_rfl
theorem run_litE3 (a b c d e f : Int) (w : World) : (Instr.buildSlice 22 3 #[(0, ag a b), (1, ag c d), (2, ag e f)]).run Try.prog w = .ok (.slice (some ⟨w.heap.size, 0, none⟩) 3 3) (w.alloc (.cells #[.int .i64 a, .int .i64 b, .int .i64 c, .int .i64 d, .int .i64 e, .int .i64 f] 31)) := by
  obtain ⟨i0, hi, hz0, hz1, hz2⟩ := info_parts arr2Info
  simp [Instr.buildSlice, run_underlying Try.underlying22, sizeOf, typeInfo, zeroValue, hi, hz0, hz1, newRow, Instr.fill]
  kernel_rfl
theorem run_litI2 (x y : Int) (w : World) : (Instr.buildSlice 33 2 #[(0, .int .i64 x), (1, .int .i64 y)]).run Try.prog w = .ok (.slice (some ⟨w.heap.size, 0, none⟩) 2 2) (w.alloc (.cells #[.int .i64 x, .int .i64 y] 3)) := by
  obtain ⟨i0, hi, hz0, hz1, hz2⟩ := info_parts intInfo
  simp [Instr.buildSlice, run_underlying Try.underlying33, sizeOf, typeInfo, zeroValue, hi, hz0, hz1, newRow, Instr.fill]
  kernel_rfl
theorem run_litS3 (A : Option Addr) (k c : Nat) (A2 : Option Addr) (k2 c2 : Nat) (A3 : Option Addr) (k3 c3 : Nat) (w : World) : (Instr.buildSlice 25 3 #[(0, .slice A k c), (1, .slice A2 k2 c2), (2, .slice A3 k3 c3)]).run Try.prog w = .ok (.slice (some ⟨w.heap.size, 0, none⟩) 3 3) (w.alloc (.cells #[.slice A k c, .slice A2 k2 c2, .slice A3 k3 c3] 33)) := by
  obtain ⟨i0, hi, hz0, hz1, hz2⟩ := info_parts sliInfo
  simp [Instr.buildSlice, run_underlying Try.underlying25, sizeOf, typeInfo, zeroValue, hi, hz0, hz1, newRow, Instr.fill]
  kernel_rfl
theorem litE_rd (E : List (Int × Int)) (w : World) : RdE (w.alloc (.cells (E.flatMap edC).toArray 31)) (w.alloc (.cells (E.flatMap edC).toArray 31)).heap.size (some ⟨w.heap.size, 0, none⟩) E.length E :=
  ⟨edFlat_len E, fun _ => ⟨w.heap.size, 0, rfl, (Bk.new w 31 (E.flatMap edC)).lt, fun j u hu => by
    rw [Nat.zero_add, (Bk.new w 31 (E.flatMap edC)).cell]
    exact hu⟩⟩
theorem alloc_sz (w : World) (o : Obj) : w.heap.size + 1 = (w.alloc o).heap.size := by simp
/-- Three rows, written out. -/
theorem lits_rdp (w : World) (p1 p2 p3 : List Nat) (W1 W2 W3 W4 : World) (h1 : W1 = w.alloc (.cells (p1.map ni).toArray 3)) (h2 : W2 = W1.alloc (.cells (p2.map ni).toArray 3)) (h3 : W3 = W2.alloc (.cells (p3.map ni).toArray 3))
    (h4 : W4 = W3.alloc (.cells #[.slice (some ⟨w.heap.size, 0, none⟩) p1.length p1.length, .slice (some ⟨W1.heap.size, 0, none⟩) p2.length p2.length, .slice (some ⟨W2.heap.size, 0, none⟩) p3.length p3.length] 33)) :
    RdP W4 W4.heap.size (some ⟨W3.heap.size, 0, none⟩) [p1, p2, p3] [(w.heap.size, p1.length), (W1.heap.size, p2.length), (W2.heap.size, p3.length)] ∧ Below w.heap.size w W4 := by
  have b1 : Bk W1 w.heap.size 3 (p1.map ni) := h1 ▸ Bk.new w _ _
  have b2 : Bk W2 W1.heap.size 3 (p2.map ni) := h2 ▸ Bk.new W1 _ _
  have b3 : Bk W3 W2.heap.size 3 (p3.map ni) := h3 ▸ Bk.new W2 _ _
  have b4 : Bk W4 W3.heap.size 33 [.slice (some ⟨w.heap.size, 0, none⟩) p1.length p1.length, .slice (some ⟨W1.heap.size, 0, none⟩) p2.length p2.length, .slice (some ⟨W2.heap.size, 0, none⟩) p3.length p3.length] := h4 ▸ Bk.new W3 _ _
  have b1' : Bk W4 w.heap.size 3 (p1.map ni) := by rw [h4]; refine Bk.alloc ?_ _; rw [h3]; refine Bk.alloc ?_ _; rw [h2]; exact Bk.alloc b1 _
  have b2' : Bk W4 W1.heap.size 3 (p2.map ni) := by rw [h4]; refine Bk.alloc ?_ _; rw [h3]; exact Bk.alloc b2 _
  have b3' : Bk W4 W2.heap.size 3 (p3.map ni) := by rw [h4]; exact Bk.alloc b3 _
  have cc : ∀ {g : Nat} {p : List Nat}, Bk W4 g 3 (p.map ni) → g < W4.heap.size ∧ p.length ≤ p.length ∧ ∀ j v, p[j]? = some v → W4.cell? ⟨g, j, none⟩ = some (ni v) := fun {g p} hb => ⟨hb.lt, Nat.le_refl _, fun j v hv => by rw [hb.cell, List.getElem?_map, hv]; rfl⟩
  have s1 : w.heap.size ≤ W1.heap.size := by rw [h1]; exact ((Below.refl w.heap.size w).alloc (Nat.le_refl _) _).size
  have s2 : W1.heap.size ≤ W2.heap.size := by rw [h2]; exact ((Below.refl W1.heap.size W1).alloc (Nat.le_refl _) _).size
  have s3 : W2.heap.size ≤ W3.heap.size := by rw [h3]; exact ((Below.refl W2.heap.size W2).alloc (Nat.le_refl _) _).size
  refine ⟨⟨rfl, b4.rd 3 (by simp), fun i r p hr hp => ?_⟩, ?_⟩
  · match i, hr, hp with
    | 0, hr, hp => cases hr; cases hp; exact cc b1'
    | 1, hr, hp => cases hr; cases hp; exact cc b2'
    | 2, hr, hp => cases hr; cases hp; exact cc b3'
    | i + 3, hr, hp => simp at hr
  · have q1 : Below w.heap.size w W1 := by rw [h1]; exact (Below.refl w.heap.size w).alloc (Nat.le_refl _) _
    have q2 : Below w.heap.size w W2 := by rw [h2]; exact q1.alloc s1 _
    have q3 : Below w.heap.size w W3 := by rw [h3]; exact q2.alloc (by omega) _
    rw [h4]; exact q3.alloc (by omega) _
set_option maxRecDepth 100000 in
/-- Parts of edges that all have both ends: what it answers. -/
theorem told_nat {n : Int} {E0 : List (Int × Int)} {w w' : World} {e : Ending} (h : Told n E0 w w' e) {k : Nat} {E : List (Nat × Nat)} (hn : n = (k : Int)) (hk : k ≤ 4096) (hE0 : E0 = ei E) (hE : In k E) (hl : E.length ≤ 16384) :
    ∃ A c L R, e = .returned (.tuple #[.slice A L.length c, .int .i64 0]) ∧ RdP w' w'.heap.size A L R ∧ Order k E [] L ∧ L.length ≤ 4096 ∧ Below w.heap.size w w' := by
  subst hn hE0
  obtain ⟨hb, h⟩ := h
  have hlen := ei_len E
  rcases h with ⟨h1, _⟩ | ⟨_, h1, _⟩ | ⟨k', E', A, c, L, R, h1, h2, h3, h4, h5, h6, h7, h8, h9⟩
  · rcases h1 with h1 | h1 <;> omega
  · rcases h1 with h1 | h1
    · omega
    · exfalso
      rw [List.all_eq_false] at h1
      obtain ⟨x, hx, hxo⟩ := h1
      unfold ei at hx
      obtain ⟨y, hy, rfl⟩ := List.mem_map.1 hx
      have := hE y hy
      unfold okE at hxo
      simp at hxo
      omega
  · have hkk : k' = k := by omega
    subst hkk
    have hEE : E' = E := by
      have : ∀ (X Y : List (Nat × Nat)), ei X = ei Y → X = Y := by
        intro X
        induction X with
        | nil => intro Y hY; cases Y with
          | nil => rfl
          | cons y Y => simp [ei] at hY
        | cons x X ih => intro Y hY; cases Y with
          | nil => simp [ei] at hY
          | cons y Y =>
            simp only [ei, List.map_cons, List.cons.injEq, Prod.mk.injEq] at hY
            obtain ⟨⟨q1, q2⟩, q3⟩ := hY
            rw [ih Y q3]
            congr 1
            exact Prod.ext (by omega) (by omega)
      exact this _ _ h4.symm
    subst hEE
    exact ⟨A, c, L, R, h6, h7, h8, h9, hb⟩
theorem parts_nat (k : Nat) (E : List (Nat × Nat)) (A : Option Addr) (ne c : Nat) (w : World) (hr : RdE w w.heap.size A ne (ei E)) (hk : k ≤ 4096) (hE : In k E) (hl : E.length ≤ 16384) :
    Calls Try.prog 10 #[ni k, .slice A ne c] w fun e w' => ∃ A' c' L R, e = .returned (.tuple #[.slice A' L.length c', .int .i64 0]) ∧ RdP w' w'.heap.size A' L R ∧ Order k E [] L ∧ L.length ≤ 4096 ∧ Below w.heap.size w w' :=
  (parts_any (k : Int) A ne c (ei E) w hr).mono fun e w' h => told_nat h rfl hk rfl hE hl
theorem order_cls {n : Nat} {E : List (Nat × Nat)} {T : List Nat} {L : List (List Nat)} (h : Order n E T L) : ∀ p ∈ L, p.length ≤ n := by
  induction h with
  | done _ => intro p hp; simp at hp
  | @next T v L h1 h2 ih =>
    intro p hp
    rcases List.mem_cons.1 hp with rfl | hp
    · refine Nat.le_trans (List.length_filter_le _ _) ?_
      rw [List.length_range]
      exact Nat.le_refl n
    · exact ih p hp
set_option maxRecDepth 100000 in
set_option maxHeartbeats 1000000 in
theorem works_any (w : World) : Calls Try.prog 9 #[] w fun e w' => e = .returned (.bool true) ∧ Below w.heap.size w w' := by
  have h1 := parts_nat 4 [(0, 1), (1, 0), (1, 2)] (some ⟨w.heap.size, 0, none⟩) 3 3 (w.alloc (.cells #[.int .i64 0, .int .i64 1, .int .i64 1, .int .i64 0, .int .i64 1, .int .i64 2] 31)) (litE_rd [(0, 1), (1, 0), (1, 2)] w) (by omega) (by intro e he; simp at he; rcases he with rfl | rfl | rfl <;> simp) (by simp)
  have hl1 := run_litE3 0 1 1 0 1 2 w
  have hb0 := Lib.hid ((Below.refl w.heap.size w).alloc (Nat.le_refl _) (.cells #[.int .i64 0, .int .i64 1, .int .i64 1, .int .i64 0, .int .i64 1, .int .i64 2] 31))
  obtain ⟨w1, hw1⟩ : ∃ w1, w1 = w.alloc (.cells #[.int .i64 0, .int .i64 1, .int .i64 1, .int .i64 0, .int .i64 1, .int .i64 2] 31) := ⟨_, rfl⟩
  rw [← hw1] at h1 hl1 hb0
  have HW1 := Lib.hid hw1
  clear hw1
  go_enter Try.func9, Try.ntmps9
  repeat (first | go_skip | go_guarded | go_step)
  rw [← HW1.out]
  refine h1.mono ?_
  rintro e w2 ⟨A1, c1, L1, R1, rfl, hr1, ho1, _, hb1⟩
  obtain rfl := ho1.unique order_W1
  have HR1 := Lib.hid hr1
  have HB1 := Lib.hid (hb0.out.trans (hb1.mono hb0.out.size))
  clear hr1 ho1 hb1 h1 hl1 hb0
  dsimp only
  have h2 := parts_nat 3 [(0, 1), (1, 2)] (some ⟨w2.heap.size, 0, none⟩) 2 2 (w2.alloc (.cells #[.int .i64 0, .int .i64 1, .int .i64 1, .int .i64 2] 31)) (litE_rd [(0, 1), (1, 2)] w2) (by omega) (by intro e he; simp at he; rcases he with rfl | rfl <;> simp) (by simp)
  have hl2 := run_litE2 0 1 1 2 w2
  have hb0 := Lib.hid ((Below.refl w2.heap.size w2).alloc (Nat.le_refl _) (.cells #[.int .i64 0, .int .i64 1, .int .i64 1, .int .i64 2] 31))
  obtain ⟨w3, hw3⟩ : ∃ w3, w3 = w2.alloc (.cells #[.int .i64 0, .int .i64 1, .int .i64 1, .int .i64 2] 31) := ⟨_, rfl⟩
  rw [← hw3] at h2 hl2 hb0
  have HW3 := Lib.hid hw3
  clear hw3
  repeat (first | go_skip | go_guarded | go_step)
  rw [← HW3.out]
  refine h2.mono ?_
  rintro e w4 ⟨A2, c2, L2, R2, rfl, hr2, ho2, _, hb2⟩
  obtain rfl := ho2.unique order_W2
  have HR2 := Lib.hid hr2
  have HB24 := Lib.hid (hb0.out.trans (hb2.mono hb0.out.size))
  have HB2 := Lib.hid (HB1.out.trans (HB24.out.mono HB1.out.size))
  clear hr2 ho2 hb2 h2 hl2 hb0
  dsimp only
  have h3 := parts_any 2 (some ⟨w4.heap.size, 0, none⟩) 1 1 [(0, 2)] (w4.alloc (.cells #[.int .i64 0, .int .i64 2] 31)) (litE_rd [(0, 2)] w4)
  have hl3 := run_litE1 0 2 w4
  have hb0 := Lib.hid ((Below.refl w4.heap.size w4).alloc (Nat.le_refl _) (.cells #[.int .i64 0, .int .i64 2] 31))
  obtain ⟨w5, hw5⟩ : ∃ w5, w5 = w4.alloc (.cells #[.int .i64 0, .int .i64 2] 31) := ⟨_, rfl⟩
  rw [← hw5] at h3 hl3 hb0
  have HW5 := Lib.hid hw5
  clear hw5
  repeat (first | go_skip | go_guarded | go_step)
  rw [← HW5.out]
  refine h3.mono ?_
  rintro e w6 hT
  have he : e = .returned (.tuple #[.slice none 0 0, .int .i64 1]) ∧ Below w5.heap.size w5 w6 := by
    obtain ⟨hb, hT⟩ := hT
    rcases hT with ⟨q, _⟩ | ⟨_, _, q⟩ | ⟨k', E', A, c, L, R, q1, _, _, q4, q5, _⟩
    · rcases q with q | q <;> simp at q
    · exact ⟨q, hb⟩
    · exfalso
      have hk' : k' = 2 := by omega
      subst hk'
      cases E' with
      | nil => simp [ei] at q4
      | cons x X =>
        have := q5 x (by simp)
        simp only [ei, List.map_cons, List.cons.injEq, Prod.mk.injEq] at q4
        omega
  obtain ⟨rfl, hb3⟩ := he
  have HB46 := Lib.hid (hb0.out.trans (hb3.mono hb0.out.size))
  have HB3 := Lib.hid (HB2.out.trans (HB46.out.mono HB2.out.size))
  clear hT hb3 h3 hl3 hb0
  dsimp only
  have HR1' := Lib.hid ((HR1.out.below (HB24.out.trans (HB46.out.mono HB24.out.size))).more (Nat.le_trans HB24.out.size HB46.out.size))
  have HR2' := Lib.hid ((HR2.out.below HB46.out).more HB46.out.size)
  obtain ⟨a1, ha1⟩ : ∃ a1, a1 = w6.alloc (.cells #[.int .i64 2] 3) := ⟨_, rfl⟩
  obtain ⟨a2, ha2⟩ : ∃ a2, a2 = a1.alloc (.cells #[.int .i64 0, .int .i64 1] 3) := ⟨_, rfl⟩
  obtain ⟨a3, ha3⟩ : ∃ a3, a3 = a2.alloc (.cells #[.int .i64 3] 3) := ⟨_, rfl⟩
  obtain ⟨a4, ha4⟩ : ∃ a4, a4 = a3.alloc (.cells #[.slice (some ⟨w6.heap.size, 0, none⟩) 1 1, .slice (some ⟨a1.heap.size, 0, none⟩) 2 2, .slice (some ⟨a2.heap.size, 0, none⟩) 1 1] 33) := ⟨_, rfl⟩
  have hlits := lits_rdp w6 [2] [0, 1] [3] a1 a2 a3 a4 ha1 ha2 ha3 ha4
  have k1 := run_litI 2 w6
  have k2 := run_litI2 0 1 a1
  have k3 := run_litI 3 a2
  have k4 := run_litS3 (some ⟨w6.heap.size, 0, none⟩) 1 1 (some ⟨a1.heap.size, 0, none⟩) 2 2 (some ⟨a2.heap.size, 0, none⟩) 1 1 a3
  rw [← ha1] at k1
  rw [← ha2] at k2
  rw [← ha3] at k3
  rw [← ha4] at k4
  have S1 := Lib.hid (show w6.heap.size + 1 = a1.heap.size by rw [ha1]; exact alloc_sz _ _)
  have S2 := Lib.hid (show a1.heap.size + 1 = a2.heap.size by rw [ha2]; exact alloc_sz _ _)
  have S3 := Lib.hid (show a2.heap.size + 1 = a3.heap.size by rw [ha3]; exact alloc_sz _ _)
  have HA1 := Lib.hid ha1
  have HA2 := Lib.hid ha2
  have HA3 := Lib.hid ha3
  have HA4 := Lib.hid ha4
  clear ha1 ha2 ha3 ha4
  have hs1 := rSame_any A1 (some ⟨a3.heap.size, 0, none⟩) 3 c1 3 3 _ _ _ _ a4 ((HR1'.out.below hlits.2).more hlits.2.size) hlits.1 rfl rfl (by omega) (by omega) (by simp) (by simp)
  have HBa := Lib.hid hlits.2
  clear hlits
  repeat (first | go_skip | go_guarded | go_step)
  rw [← HA1.out, ← HA2.out, ← HA3.out, S1.out, S2.out, S3.out, ← HA4.out]
  refine hs1.mono ?_
  rintro e w7 ⟨rfl, hb7⟩
  have HB67 := Lib.hid (HBa.out.trans (hb7.mono HBa.out.size))
  clear HA1 HA2 HA3 HA4 S1 S2 S3 hb7 hs1 k1 k2 k3 k4
  dsimp only
  rw [decide_eq_true (show [[2], [0, 1], [3]] = [[2], [0, 1], [3]] from rfl)]
  have HR2'' := Lib.hid ((HR2'.out.below HB67.out).more HB67.out.size)
  have HR1'' := Lib.hid ((HR1'.out.below HB67.out).more HB67.out.size)
  obtain ⟨b1, hb1⟩ : ∃ b1, b1 = w7.alloc (.cells #[.int .i64 2] 3) := ⟨_, rfl⟩
  obtain ⟨b2, hb2⟩ : ∃ b2, b2 = b1.alloc (.cells #[.int .i64 1] 3) := ⟨_, rfl⟩
  obtain ⟨b3, hb3⟩ : ∃ b3, b3 = b2.alloc (.cells #[.int .i64 0] 3) := ⟨_, rfl⟩
  obtain ⟨b4, hb4⟩ : ∃ b4, b4 = b3.alloc (.cells #[.slice (some ⟨w7.heap.size, 0, none⟩) 1 1, .slice (some ⟨b1.heap.size, 0, none⟩) 1 1, .slice (some ⟨b2.heap.size, 0, none⟩) 1 1] 33) := ⟨_, rfl⟩
  have hlits := lits_rdp w7 [2] [1] [0] b1 b2 b3 b4 hb1 hb2 hb3 hb4
  have k1 := run_litI 2 w7
  have k2 := run_litI 1 b1
  have k3 := run_litI 0 b2
  have k4 := run_litS3 (some ⟨w7.heap.size, 0, none⟩) 1 1 (some ⟨b1.heap.size, 0, none⟩) 1 1 (some ⟨b2.heap.size, 0, none⟩) 1 1 b3
  rw [← hb1] at k1
  rw [← hb2] at k2
  rw [← hb3] at k3
  rw [← hb4] at k4
  have S1 := Lib.hid (show w7.heap.size + 1 = b1.heap.size by rw [hb1]; exact alloc_sz _ _)
  have S2 := Lib.hid (show b1.heap.size + 1 = b2.heap.size by rw [hb2]; exact alloc_sz _ _)
  have S3 := Lib.hid (show b2.heap.size + 1 = b3.heap.size by rw [hb3]; exact alloc_sz _ _)
  have HA1 := Lib.hid hb1
  have HA2 := Lib.hid hb2
  have HA3 := Lib.hid hb3
  have HA4 := Lib.hid hb4
  clear hb1 hb2 hb3 hb4
  have hs2 := rSame_any A2 (some ⟨b3.heap.size, 0, none⟩) 3 c2 3 3 _ _ _ _ b4 ((HR2''.out.below hlits.2).more hlits.2.size) hlits.1 rfl rfl (by omega) (by omega) (by simp) (by simp)
  have HBb := Lib.hid hlits.2
  clear hlits
  repeat (first | go_skip | go_guarded | go_step)
  rw [← HA1.out, ← HA2.out, ← HA3.out, S1.out, S2.out, S3.out, ← HA4.out]
  refine hs2.mono ?_
  rintro e w8 ⟨rfl, hb8⟩
  have HB78 := Lib.hid (HBb.out.trans (hb8.mono HBb.out.size))
  have HB8 := Lib.hid (HB3.out.trans ((HB67.out.mono HB3.out.size).trans (HB78.out.mono (Nat.le_trans HB3.out.size HB67.out.size))))
  clear hb8 hs2 k1 k2 k3 k4
  dsimp only
  rw [decide_eq_true (show [[2], [1], [0]] = [[2], [1], [0]] from rfl)]
  have p1 := part_any A1 3 c1 [[2], [0, 1], [3]] R1 1 w8 ((HR1''.out.below HB78.out).more HB78.out.size) rfl (by omega) (by simp)
  rw [show partIx [[2], [0, 1], [3]] 1 = 1 from by decide] at p1
  repeat (first | go_skip | go_guarded | go_step)
  refine p1.mono ?_
  rintro e w9 ⟨rfl, hb9⟩
  have HB9 := Lib.hid (HB8.out.trans (hb9.mono HB8.out.size))
  have p2 := part_any A1 3 c1 [[2], [0, 1], [3]] R1 4 w9 ((HR1''.out.below (HB78.out.trans (hb9.mono HB78.out.size))).more (Nat.le_trans HB78.out.size hb9.size)) rfl (by omega) (by simp)
  rw [show partIx [[2], [0, 1], [3]] 4 = -1 from by decide] at p2
  clear hb9 p1
  dsimp only
  repeat (first | go_skip | go_guarded | go_step)
  refine p2.mono ?_
  rintro e w10 ⟨rfl, hb10⟩
  have HB10 := Lib.hid (HB9.out.trans (hb10.mono HB9.out.size))
  clear hb10 p2
  dsimp only
  repeat (first | go_skip | go_guarded | go_step)
  go_ret
  exact ⟨rfl, HB10.out⟩
end Go.Proofs.Ytbfagejdpbagjaa
