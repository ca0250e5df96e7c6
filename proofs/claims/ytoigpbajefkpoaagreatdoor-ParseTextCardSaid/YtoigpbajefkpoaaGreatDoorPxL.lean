/- Texts, packed: PaZ SyX -/
import Derived.Test.YtoigpbajefkpoaaGreatDoorPxK
import Derived.Test.YtoigpbajefkpoaaGreatDoorPxA
set_option linter.unusedVariables false
set_option linter.unusedSimpArgs false
namespace Go.Proofs.YtoigpbajefkpoaaGreatDoor
open Go Go.RowKit

/-- How a rule lies in memory: its terms, its conditions, and their terms. -/
abbrev RlA := SlA × SlA × List SlA
def ruC (z : Rl × RlA) : List Value := [.bool z.1.1.1, .bool z.1.1.2.1.1, nv z.1.1.2.1.2, nv z.1.1.2.2.1, z.2.1.val, z.2.2.1.val]
theorem ruC_one (z : Rl × RlA) : ∀ u ∈ ruC z, u.oneCell' = true := by
  intro u hu
  simp only [ruC, List.mem_cons, List.not_mem_nil, or_false] at hu
  rcases hu with rfl | rfl | rfl | rfl | rfl | rfl <;> rfl
/-- An own row of rules. -/
structure OwRs (w : World) (base : Nat) (A : Option Addr) (c n : Nat) (Q : List RlA) (L : List Rl) : Prop where
  lenQ : Q.length = n
  lenL : L.length = n
  top : w.ownsRow base 54 6 (.slice A n c) n ((L.zip Q).flatMap ruC)
  row : ∀ (i : Nat) (q : RlA) (x : Rl), Q[i]? = some q → L[i]? = some x → OwT w base q.1.1 q.1.2.2 q.1.2.1 x.1.2.2.2 ∧ OwC w base q.2.1.1 q.2.1.2.2 q.2.1.2.1 q.2.2 x.2
/-- A row of rules that is read. -/
structure RdRs (w : World) (B : Nat) (A : Option Addr) (n : Nat) (Q : List RlA) (L : List Rl) : Prop where
  lenQ : Q.length = n
  lenL : L.length = n
  top : Rd w B 6 A n ((L.zip Q).flatMap ruC)
  row : ∀ (i : Nat) (q : RlA) (x : Rl), Q[i]? = some q → L[i]? = some x → RdT w B q.1.1 q.1.2.1 x.1.2.2.2 ∧ RdK w B q.2.1.1 q.2.1.2.1 q.2.2 x.2
section
variable {w w' : World} {base B : Nat} {A : Option Addr} {c n : Nat} {Q : List RlA} {L : List Rl}
theorem OwRs.nil (w : World) (base : Nat) : OwRs w base none 0 0 [] [] := ⟨rfl, rfl, World.ownsRow_nil _ _ _ _, fun i r x h => by simp at h⟩
theorem OwRs.map (h : OwRs w base A c n Q L) (f : ∀ e s v n xs, (e = 54 ∨ e = 103 ∨ e = 46) → w.ownsRow base e s v n xs → w'.ownsRow base e s v n xs) : OwRs w' base A c n Q L :=
  ⟨h.lenQ, h.lenL, f _ _ _ _ _ (Or.inl rfl) h.top, fun i q x h1 h2 => ⟨f _ _ _ _ _ (Or.inr (Or.inr rfl)) (h.row i q x h1 h2).1, (h.row i q x h1 h2).2.map fun e s v n xs he ho => f e s v n xs (Or.inr he) ho⟩⟩
theorem OwRs.rd (h : OwRs w base A c n Q L) : RdRs w w.heap.size A n Q L := ⟨h.lenQ, h.lenL, Rd.ofOwn h.top, fun i q x h1 h2 => ⟨OwT.rd (h.row i q x h1 h2).1, (h.row i q x h1 h2).2.rd⟩⟩
theorem OwRs.later (h : OwRs w base A c n Q L) (hb : Below w.heap.size w w') : OwRs w' base A c n Q L := h.map fun e s v n xs _ ho => ownBelow ho hb (Nat.le_refl _)
theorem OwRs.kp {b0 g : Nat} {cs : List Value} (h : OwRs w base A c n Q L) (hk : Kp b0 g w w') (hb : Bk w g PT cs) : OwRs w' base A c n Q L :=
  h.map fun e s v n xs he ho => hk.own ho hb (by rcases he with rfl | rfl | rfl <;> decide) (by rcases he with rfl | rfl | rfl <;> decide)
theorem OwRs.cap (h : OwRs w base A c n Q L) : n ≤ c := by
  obtain ⟨A1, c1, hv, hl⟩ := ownForm h.top
  cases hv
  exact hl
theorem RdRs.below (h : RdRs w B A n Q L) (hb : Below B w w') : RdRs w' B A n Q L := ⟨h.lenQ, h.lenL, h.top.below hb, fun i q x h1 h2 => ⟨(h.row i q x h1 h2).1.below hb, (h.row i q x h1 h2).2.below hb⟩⟩
theorem RdRs.more {B' : Nat} (h : RdRs w B A n Q L) (hB : B ≤ B') : RdRs w B' A n Q L := ⟨h.lenQ, h.lenL, h.top.more hB, fun i q x h1 h2 => ⟨(h.row i q x h1 h2).1.more hB, (h.row i q x h1 h2).2.more hB⟩⟩
theorem OwRs.snoc (h : OwRs w base A c n Q L) {q : RlA} {x : Rl} (h1 : OwT w base q.1.1 q.1.2.2 q.1.2.1 x.1.2.2.2) (h2 : OwC w base q.2.1.1 q.2.1.2.2 q.2.1.2.1 q.2.2 x.2) {A' : Option Addr} {c' : Nat}
    (ho : w'.ownsRow base 54 6 (.slice A' (n + 1) c') (n + 1) ((L.zip Q).flatMap ruC ++ ruC (x, q))) (ht : Typ 54 w w') : OwRs w' base A' c' (n + 1) (Q ++ [q]) (L ++ [x]) := by
  have key : ∀ (q : RlA) (x : Rl), OwT w base q.1.1 q.1.2.2 q.1.2.1 x.1.2.2.2 → OwC w base q.2.1.1 q.2.1.2.2 q.2.1.2.1 q.2.2 x.2 → OwT w' base q.1.1 q.1.2.2 q.1.2.1 x.1.2.2.2 ∧ OwC w' base q.2.1.1 q.2.1.2.2 q.2.1.2.1 q.2.2 x.2 := fun q x a1 a2 =>
    ⟨ht.own a1 (by decide), a2.map fun e s v n xs he ho => ht.own ho (by rcases he with rfl | rfl <;> decide)⟩
  refine ⟨by simp [h.lenQ], by simp [h.lenL], ?_, ?_⟩
  · rw [List.zip_append (by rw [h.lenL, h.lenQ]), List.flatMap_append]
    simpa using ho
  · intro i q' x' e1 e2
    by_cases hi : i < n
    · rw [List.getElem?_append_left (by rw [h.lenQ]; exact hi)] at e1
      rw [List.getElem?_append_left (by rw [h.lenL]; exact hi)] at e2
      exact key _ _ (h.row i q' x' e1 e2).1 (h.row i q' x' e1 e2).2
    · have hil : i = n := by
        have := (List.getElem?_eq_some_iff.1 e1).1
        simp only [List.length_append, List.length_cons, List.length_nil, h.lenQ] at this
        omega
      subst hil
      rw [List.getElem?_append_right (by rw [h.lenQ]; omega), h.lenQ, Nat.sub_self] at e1
      rw [List.getElem?_append_right (by rw [h.lenL]; omega), h.lenL, Nat.sub_self] at e2
      simp only [List.getElem?_cons_zero, Option.some.injEq] at e1 e2
      subst e1 e2
      exact key _ _ h1 h2
end
theorem rlInfo : (Tryz.prog.info? 54).map (fun i => (i.zero, i.size, i.bytes)) = some (some (.agg #[.bool false, .bool false, .int .u32 0, .int .u32 0, .slice none 0 0, .slice none 0 0]), 6, 72) := by kernel_rfl
/-- 'l = append(l, r)', over rules. -/
theorem appRl {ops : Array Oper} {rest : List Oper} {o : Oper} {a : Act} {Q' : Exit → Act → World → Prop} (w : World) (hgd : o.guard = none) (p x : Operand)
    (ho : o.op = .call { callee := .builtin .append, args := #[p, x], argTypes := #[27, 27] })
    (base : Nat) (A0 : Option Addr) (c0 n : Nat) (Q : List RlA) (L : List Rl) (hv : a.eval p = .slice A0 n c0) (hown : OwRs w base A0 c0 n Q L)
    (B : Nat) (A : Option Addr) (c : Nat) (y : Rl) (q : RlA) (hx : a.eval x = .slice A 1 c) (hr : Rd w B 6 A 1 (ruC (y, q))) (hb : n + 1 ≤ 1000000000) (hbase : base ≤ w.heap.size)
    (h1 : OwT w base q.1.1 q.1.2.2 q.1.2.1 y.1.2.2.2) (h2 : OwC w base q.2.1.1 q.2.1.2.2 q.2.1.2.1 q.2.2 y.2)
    (h : ∀ A' c' w', OwRs w' base A' c' (n + 1) (Q ++ [q]) (L ++ [y]) → w.grownBy w' (Value.slice A0 n c0).ownBlock → wpList Tryz.prog ops Q' rest (a.put o.dst (.slice A' (n + 1) c')) w') : wpList Tryz.prog ops Q' (o :: rest) a w := by
  obtain ⟨i0, hi, hz0, hz1, hz2⟩ := info_parts rlInfo
  refine wpList_app w hgd p x 27 ho base 54 i0 _ 6 72 Tryz.underlying27 hi hz0 hz1 hz2 rfl (by decide) _ n _ hv hown.top B A 1 c _ hx hr (ruC_one (y, q)) (by simp only [maxLen]; omega) (by omega) hbase ?_
  intro A' c' w' e1 e2 e3
  exact h A' c' w' (hown.snoc h1 h2 e1 (Typ.ofGrown hown.top e2)) e2
theorem run_litR (b1 b2 : Bool) (x y : UInt32) (A : Option Addr) (n c : Nat) (A1 : Option Addr) (n1 c1 : Nat) (w : World) : (Instr.buildSlice 27 1 #[(0, .agg #[.bool b1, .bool b2, nv x, nv y, .slice A n c, .slice A1 n1 c1])]).run Tryz.prog w = .ok (.slice (some ⟨w.heap.size, 0, none⟩) 1 1) (w.alloc (.cells #[.bool b1, .bool b2, nv x, nv y, .slice A n c, .slice A1 n1 c1] 54)) := by
  obtain ⟨i0, hi, hz0, hz1, hz2⟩ := info_parts rlInfo
  simp [Instr.buildSlice, run_underlying Tryz.underlying27, sizeOf, typeInfo, zeroValue, hi, hz0, hz1, newRow, Instr.fill]
  kernel_rfl
/-- 'append(l, l2...)', over strings. -/
theorem appSs {ops : Array Oper} {rest : List Oper} {o : Oper} {a : Act} {Q : Exit → Act → World → Prop} (w : World) (hgd : o.guard = none) (p x : Operand)
    (ho : o.op = .call { callee := .builtin .append, args := #[p, x], argTypes := #[22, 22] })
    (base : Nat) (hv : a.eval p = .slice none 0 0) (B : Nat) (A : Option Addr) (m c : Nat) (l : List ByteArray) (hx : a.eval x = .slice A m c) (hr : Rd w B 1 A m (l.map sv)) (hb : m ≤ 1000000) (hbase : base ≤ w.heap.size)
    (h : ∀ A' c' w', OwS w' base A' c' m l → Below w.heap.size w w' → wpList Tryz.prog ops Q rest (a.put o.dst (.slice A' m c')) w') : wpList Tryz.prog ops Q (o :: rest) a w := by
  obtain ⟨i0, hi, hz0, hz1, hz2⟩ := info_parts sInfo
  refine wpList_app w hgd p x 22 ho base 9 i0 _ 1 16 Tryz.underlying22 hi hz0 hz1 hz2 rfl (by decide) _ 0 [] hv (World.ownsRow_nil _ _ _ _) B A m c _ hx hr (by
    intro u hu
    obtain ⟨s, _, rfl⟩ := List.mem_map.1 hu
    rfl) (by simp only [maxLen]; omega) (by omega) hbase ?_
  intro A' c' w' h1 h2 h3
  rw [Nat.zero_add] at h1 ⊢
  exact h A' c' w' (by simpa using h1) ⟨h2.os, h2.tape, h2.output, h2.size, fun k hk => h2.block k hk (by simp [Value.ownBlock])⟩
theorem OwC.lower {w : World} {b b' : Nat} {A : Option Addr} {c n : Nat} {R : List SlA} {L : List Co} (h : OwC w b A c n R L) (hb : b' ≤ b) : OwC w b' A c n R L :=
  ⟨h.lenR, h.lenL, ownBase h.top hb, fun i r x h1 h2 => ownBase (h.row i r x h1 h2) hb⟩
theorem results_tmp4 {fn : Func} {t u v x : Tmp} (h : fn.results = #[.tmp t, .tmp u, .tmp v, .tmp x]) (tmps : Array Value) (P : Program) (w : World) :
    (results fn tmps).run P w = .ok (.tuple #[tmps.getD t undef, tmps.getD u undef, tmps.getD v undef, tmps.getD x undef]) w := by
  simp [results, h]
theorem belowSame {B : Nat} {a b c : World} (h : Below B a b) (ho : c.os = b.os) (ht : c.tape = b.tape) (hp : c.output = b.output) (hh : c.heap = b.heap) : Below B a c := ⟨ho.trans h.os, ht.trans h.tape, hp.trans h.output, by rw [hh]; exact h.size, fun k hk => by rw [hh]; exact h.block k hk⟩
theorem lexG_count : ∀ (n a : Nat) (l : List UInt8), l.length ≤ n → (lexG a l).1.length ≤ l.length
  | 0, a, l, h => by
    have : l = [] := List.eq_nil_of_length_eq_zero (by omega)
    subst this
    rw [lexG_end rfl]
    simp
  | n + 1, a, l, h => by
    by_cases h1 : l.drop (blN false l) = []
    · rw [lexG_end h1]; simp
    · obtain ⟨k, j, hw⟩ : ∃ k j, wordN (l.drop (blN false l)) = (k, j) := ⟨_, _, rfl⟩
      by_cases hj : j = 0
      · rw [lexG_bad rfl h1 (by rw [hw]; exact hj)]; simp
      · rw [lexG_word rfl hw hj]
        have hle := wordN_le (l.drop (blN false l))
        rw [hw] at hle
        have ih := lexG_count n (a + blN false l + j) ((l.drop (blN false l)).drop j) (by
          rw [List.length_drop, List.length_drop]
          rw [List.length_drop] at hle
          dsimp only at hle
          omega)
        rw [List.length_drop, List.length_drop] at ih
        rw [List.length_drop] at hle
        dsimp only at hle
        simp only [List.length_cons]
        omega
theorem words_count {l : List UInt8} {ws : List Wd} {y z : Nat} (h : (ws, y, z) = wordsL l) : ws.length ≤ 65536 := by
  unfold wordsL at h
  by_cases hb : 65536 < l.length
  · rw [if_pos hb] at h
    simp only [Prod.mk.injEq] at h
    rw [h.1]; simp
  · rw [if_neg hb] at h
    have hc := lexG_count l.length 0 l (Nat.le_refl _)
    rcases hx : lexG 0 l with ⟨w1, o1⟩
    rw [hx] at h hc
    cases o1 with
    | none =>
      simp only [Prod.mk.injEq] at h
      rw [h.1]
      dsimp only at hc
      omega
    | some k =>
      simp only [Prod.mk.injEq] at h
      rw [h.1]; simp
theorem rules_len {sz : Nat} {s : PS} {r : Rl} {s' : PS} (h : ruleE sz s = .ok (r, s')) : s'.1.length < s.1.length := by
  obtain ⟨l, N, V⟩ := s
  obtain ⟨l', N', V'⟩ := s'
  obtain ⟨⟨w, u, rfl⟩, _⟩ := took_rule _ _ _ _ _ _ _ _ h
  simp
  omega
theorem rules_end {sz m : Nat} {acc : List Rl} {s : PS} (h : s.1 = []) : rulesE sz m acc s = .ok (acc, s) := by
  cases m with
  | zero => rfl
  | succ m => rw [rulesE, if_pos h]
theorem rules_go {sz m : Nat} {acc : List Rl} {s : PS} (h : s.1 ≠ []) : rulesE sz (m + 1) acc s = bindE (ruleE sz s) fun r s1 => rulesE sz m (acc ++ [r]) s1 := by rw [rulesE, if_neg h]
theorem PSt.ahead {base g sz : Nat} {ws : List Wd} {w : World} {x : Except PE PS} (h : PSt w base g ws sz x) :
    ∃ (AW : Option Addr) (nW cW k : Nat) (AN : Option Addr) (nN cN : Nat) (e0 a0 : Nat) (names : List ByteArray), w.cell? ⟨g, 0, none⟩ = some (.slice AW nW cW) ∧ w.cell? ⟨g, 1, none⟩ = some (.int .i64 (k : Int)) ∧ w.cell? ⟨g, 3, none⟩ = some (.slice AN nN cN) ∧ w.cell? ⟨g, 5, none⟩ = some (.int .i64 (e0 : Int)) ∧ w.cell? ⟨g, 6, none⟩ = some (.int .i64 (a0 : Int)) ∧
      OwS w base AN cN nN names ∧ (∀ s, x = .ok s → e0 = 0 ∧ s.2.1 = names ∧ (k < nW ↔ s.1 ≠ [])) ∧ (∀ z, x = .error z → e0 = z.1 ∧ a0 = z.2 ∧ e0 ≠ 0) := by
  obtain ⟨AW, nW, cW, k, AN, nN, cN, AV, nV, cV, e0, a0, names, vars, hg, hb, hw, hn, hv, hne, hk, hW, hN, hV, hst⟩ := h
  refine ⟨AW, nW, cW, k, AN, nN, cN, e0, a0, names, hb.cell 0, hb.cell 1, hb.cell 3, hb.cell 5, hb.cell 6, hn, ?_, ?_⟩
  · rintro s rfl
    obtain ⟨h1, rfl⟩ := hst
    refine ⟨h1, rfl, ?_⟩
    have hl := rdV_len (OwV.rd hw)
    constructor
    · intro h h2
      have := congrArg List.length h2
      rw [List.length_drop, hl] at this
      simp at this
      omega
    · intro h
      by_cases h2 : k < nW
      · exact h2
      · exact absurd (List.drop_of_length_le (by omega)) h
  · rintro z rfl
    exact hst

set_option maxRecDepth 100000 in
set_option maxHeartbeats 16000000 in
theorem rParse8_any (A0 : Option Addr) (n0 c0 : Nat) (names : List ByteArray) (s : ByteArray) (w : World) (hr0 : Rd w w.heap.size 1 A0 n0 (names.map sv)) (hn0 : n0 ≤ 4096) (hs : s.size ≤ 200000) :
    Calls Tryz.prog 12 #[.slice A0 n0 c0, sv s] w fun e w' => ∃ (A1 : Option Addr) (n1 c1 : Nat) (A2 : Option Addr) (n2 c2 : Nat) (Q : List RlA) (rs : List Rl) (ns : List ByteArray) (y z : Nat), e = .returned (.tuple #[.slice A1 n1 c1, .slice A2 n2 c2, .int .i64 (y : Int), .int .i64 (z : Int)]) ∧ OwRs w' w.heap.size A1 c1 n1 Q rs ∧ n1 ≤ 70001 ∧ Rd w' w'.heap.size 1 A2 n2 (ns.map sv) ∧ Below w.heap.size w w' ∧ (rs, ns, y, z) = parseL names (tb s) := by
  have hn0l : names.length = n0 := by simpa using hr0.len1
  have hlen := tb_len s
  have HR0 := Lib.hid hr0
  have HNL := Lib.hid hn0l
  clear hr0 hn0l
  go_enter Tryz.func12, Tryz.ntmps12
  repeat (first | go_skip | go_guarded | go_step)
  refine (rWords_any s w (by omega)).mono ?_
  rintro e w1 ⟨AW, m, cW, ws, y, z, rfl, how, hb1, hans⟩
  have HPL := Lib.hid (show parseL names (tb s) = if z ≠ 0 then ([], names, y, z) else match rulesE (tb s).length ws.length [] (ws, names, []) with | .ok (rs, s) => (rs, s.2.1, 0, 0) | .error (e, a) => ([], names, a, e) by unfold parseL; rw [← hans]; rfl)
  have hwl := rdV_len (OwV.rd how)
  have hwm : m ≤ 65536 := by
    have h1 := words_count hans
    have h2 := rdV_len (OwV.rd how)
    omega
  have HOW := Lib.hid how
  have HB1 := Lib.hid hb1
  have HWL := Lib.hid hwl
  have hw1s : w.heap.size ≤ w1.heap.size := hb1.size
  clear how hb1 hans hwl
  dsimp only
  by_cases hz : z = 0
  · subst hz
    have HPL := Lib.hid (show parseL names (tb s) = match rulesE s.size ws.length [] (ws, names, []) with | .ok (rs, s) => (rs, s.2.1, 0, 0) | .error (e, a) => ([], names, a, e) by rw [HPL.out, if_neg (by simp), hlen])
    obtain ⟨g, hg⟩ : ∃ g, g = w1.heap.size := ⟨_, rfl⟩
    obtain ⟨U1, hU1⟩ : ∃ U1, U1 = w1.alloc (.cells #[.slice AW m cW, .int .i64 0, .int .i64 (s.size : Int), .slice none 0 0, .slice none 0 0, .int .i64 0, .int .i64 0] PT) := ⟨_, rfl⟩
    have hbk1 : Bk U1 g PT (pzC AW m cW 0 s.size none 0 0 none 0 0 0 0) := by rw [hU1, hg]; exact Bk.new w1 _ (pzC AW m cW 0 s.size none 0 0 none 0 0 0 0)
    have hb2 : Below w1.heap.size w1 U1 := by rw [hU1]; exact (Below.refl _ _).alloc (Nat.le_refl _) _
    have HBK := Lib.hid hbk1
    have HOW1 := Lib.hid (ownBelow HOW.out hb2 (Nat.le_refl _))
    have HBU := Lib.hid (HB1.out.trans (hb2.mono hw1s))
    have HR1 := Lib.hid ((HR0.out.below HBU.out).more HBU.out.size)
    have HU1 := Lib.hid hU1
    have HG := Lib.hid hg
    have hgs : w.heap.size ≤ g := by omega
    have c3 : U1.cell? ⟨g, 3, none⟩ = some (.slice none 0 0) := hbk1.cell 3
    have f3 : U1.frozen? ⟨g, 3, none⟩ = false := hbk1.frozen 3
    have hU1s : w.heap.size ≤ U1.heap.size := HBU.out.size
    clear hU1 hg hbk1 hb2
    go_upto_region 5 with (fail)
    rw [← HU1.out, ← HG.out]
    clear HU1 HG
    repeat (first
      | (at_builtin; refine appSs U1 rfl (.tmp 34) (.tmp 35) rfl w.heap.size rfl _ A0 n0 c0 names rfl HR1.out (by omega) hU1s ?_
         intro A' c' U2 ho2 hb2
         have HO2 := Lib.hid ho2
         have HBK2 := Lib.hid (HBK.out.later hb2)
         have HOW2 := Lib.hid (ownBelow HOW1.out hb2 (Nat.le_refl _))
         have HBU2 := Lib.hid (HBU.out.trans (hb2.mono hU1s))
         have c3' : U2.cell? ⟨g, 3, none⟩ = some (.slice none 0 0) := HBK2.out.cell 3
         have f3' : U2.frozen? ⟨g, 3, none⟩ = false := HBK2.out.frozen 3
         clear ho2 hb2)
      | go_skip | go_guarded | go_step)
    have ht3 : Only g U2 (U2.setCell ⟨g, 3, none⟩ (.slice A' n0 c')) := Turn.setCell (G := fun j => j = g) (Turn.refl _ U2) (fun _ => rfl) _
    have HP3 := Lib.hid (show PSt (U2.setCell ⟨g, 3, none⟩ (.slice A' n0 c')) w.heap.size g ws s.size (.ok (ws, names, [])) from
      mkSt (k := 0) (AN := A') (nN := n0) (cN := c') (AV := none) (nV := 0) (cV := 0) (e := 0) (a := 0) (names := names) (vars := []) hgs HBK2.out (HBK2.out.set_ 3 _) HOW2.out HO2.out (World.ownsRow_nil _ _ _ _) (fun b _ => by simp [Value.ownBlock]) (by omega) (by omega) (by omega) (by omega) ht3 ⟨rfl, by rw [List.drop_zero]⟩)
    have HBU3 := Lib.hid (HBU2.out.trans (only_below ht3 hgs HBK2.out.lt))
    clear ht3 c3 f3 c3' f3' HBK HBK2 HOW1 HOW2 HBU HBU2 HO2 HR1 HOW HB1
    generalize U2.setCell ⟨g, 3, none⟩ (.slice A' n0 c') = U3 at HP3 HBU3 ⊢
    go_loopw [12] (fun p12 wr => ∃ (y2 : Except PE PS) (A1 : Option Addr) (n1 c1 : Nat) (Q : List RlA) (acc : List Rl), p12 = .slice A1 n1 c1 ∧ PSt wr w.heap.size g ws s.size y2 ∧ OwRs wr w.heap.size A1 c1 n1 Q acc ∧ Below w.heap.size U3 wr ∧ ((∃ z, y2 = .error z ∧ n1 ≤ 65537 ∧ rulesE s.size ws.length [] (ws, names, []) = .error z) ∨ (∃ s2 m2, y2 = .ok s2 ∧ s2.1.length ≤ m2 ∧ n1 + s2.1.length ≤ ws.length ∧ rulesE s.size m2 acc s2 = rulesE s.size ws.length [] (ws, names, [])))) (fun p12 _ => 70002 - slN (some p12))
    case atStart => exact ⟨.ok (ws, names, []), none, 0, 0, [], [], rfl, HP3.out, OwRs.nil _ _, Below.refl _ _, Or.inr ⟨_, ws.length, rfl, Nat.le_refl _, by simp, rfl⟩⟩
    case round =>
      obtain ⟨y2, A1, n1, c1, Q, acc, rfl, hP, hO, hK, hrel2⟩ := hrel
      have hn1c := hO.cap
      have HP := Lib.hid hP
      have HO := Lib.hid hO
      have HK := Lib.hid hK
      obtain ⟨AW5, nW5, cW5, k5, AN5, nN5, cN5, e5, a5, ns5, q0, q1, q3, q5, q6, hns5, hok, herr⟩ := hP.ahead
      have cc0 : ∀ q, (wr.drewN q).cell? ⟨g, 0, none⟩ = some (.slice AW5 nW5 cW5) := fun _ => q0
      have c1' : ∀ q, (wr.drewN q).cell? ⟨g, 1, none⟩ = some (.int .i64 (k5 : Int)) := fun _ => q1
      have c3 : ∀ q, (wr.drewN q).cell? ⟨g, 3, none⟩ = some (.slice AN5 nN5 cN5) := fun _ => q3
      have c5 : ∀ q, (wr.drewN q).cell? ⟨g, 5, none⟩ = some (.int .i64 (e5 : Int)) := fun _ => q5
      have c6 : ∀ q, (wr.drewN q).cell? ⟨g, 6, none⟩ = some (.int .i64 (a5 : Int)) := fun _ => q6
      have HNS := Lib.hid hns5
      clear hP hO hK hns5 HP3
      rcases hrel2 with ⟨z, rfl, hn1, hz⟩ | ⟨s2, m2, rfl, hm2, hns, hrun⟩
      · obtain ⟨he1, he2, he3⟩ := herr z rfl
        have de : ((e5 : Int) == 0) = false := by rw [beq_eq_false_iff_ne]; omega
        have dn : ((e5 : Int) != 0) = true := by rw [bne_iff_ne]; omega
        have HFIN := Lib.hid (show ([], names, a5, e5) = parseL names (tb s) by rw [HPL.out, hz, he1, he2])
        have HEND := Lib.hid (HBU3.out.trans HK.out)
        clear he1 he2 he3 hok herr hz
        by_cases hlt : k5 < nW5
        · have dlt : decide ((k5 : Int) < (nW5 : Int)) = true := by simp; omega
          have dlt' : decide (k5 < nW5) = true := by simp; omega
          clear hlt
          change Code.wp _ _ _ _ (wr.drewN 0)
          repeat (first | go_skip | go_guarded | go_step)
          go_quiet (fail)
          repeat (first | go_skip | go_guarded | go_step)
          go_quiet (fail)
          repeat (first | go_skip | go_guarded | go_step)
          (try simp only [Exit.inBlock, Exit.then])
          refine bodyPost_ret (results_tmp4 rfl _ _ _) rfl ?_
          exact ⟨none, 0, 0, A0, n0, c0, [], [], names, a5, e5, rfl, OwRs.nil _ _, by omega, (HR0.out.below HEND.out).more HEND.out.size, belowSame HEND.out rfl rfl rfl rfl, HFIN.out⟩
        · have dlt : decide ((k5 : Int) < (nW5 : Int)) = false := by simp; omega
          have dlt' : decide (k5 < nW5) = false := by simp; omega
          clear hlt
          change Code.wp _ _ _ _ (wr.drewN 0)
          repeat (first | go_skip | go_guarded | go_step)
          go_quiet (fail)
          repeat (first | go_skip | go_guarded | go_step)
          go_quiet (fail)
          repeat (first | go_skip | go_guarded | go_step)
          (try simp only [Exit.inBlock, Exit.then])
          refine bodyPost_ret (results_tmp4 rfl _ _ _) rfl ?_
          exact ⟨none, 0, 0, A0, n0, c0, [], [], names, a5, e5, rfl, OwRs.nil _ _, by omega, (HR0.out.below HEND.out).more HEND.out.size, belowSame HEND.out rfl rfl rfl rfl, HFIN.out⟩
      · obtain ⟨he1, he2, he3⟩ := hok s2 rfl
        have de : ((e5 : Int) == 0) = true := by rw [he1]; rfl
        have dn : ((e5 : Int) != 0) = false := by rw [he1]; rfl
        have HEND := Lib.hid (HBU3.out.trans HK.out)
        clear he1 hok herr
        by_cases hnil : s2.1 = []
        · have hlt : ¬ k5 < nW5 := fun h => he3.1 h hnil
          have dlt : decide ((k5 : Int) < (nW5 : Int)) = false := by simp; omega
          have dlt' : decide (k5 < nW5) = false := by simp; omega
          have HFIN := Lib.hid (show (acc, ns5, 0, 0) = parseL names (tb s) by rw [HPL.out, ← hrun, rules_end hnil]; dsimp only; rw [he2])
          have hn1 : n1 ≤ 65536 := by have := HWL.out; omega
          clear hlt he3 he2 hrun hnil
          change Code.wp _ _ _ _ (wr.drewN 0)
          repeat (first | go_skip | go_guarded | go_step)
          go_quiet (fail)
          repeat (first | go_skip | go_guarded | go_step)
          go_quiet (fail)
          repeat (first | go_skip | go_guarded | go_step)
          (try simp only [Exit.inBlock, Exit.then])
          refine bodyPost_ret (results_tmp4 rfl _ _ _) rfl ?_
          exact ⟨A1, n1, c1, AN5, nN5, cN5, Q, acc, ns5, 0, 0, rfl, HO.out.map fun _ _ _ _ _ _ h => h, by omega, Rd.ofOwn HNS.out, belowSame HEND.out rfl rfl rfl rfl, HFIN.out⟩
        · have hlt : k5 < nW5 := he3.2 hnil
          have dlt : decide ((k5 : Int) < (nW5 : Int)) = true := by simp; omega
          have dlt' : decide (k5 < nW5) = true := by simp; omega
          obtain ⟨m3, rfl⟩ : ∃ m3, m2 = m3 + 1 := ⟨m2 - 1, by
            have : s2.1.length ≠ 0 := fun h => hnil (List.eq_nil_of_length_eq_zero h)
            omega⟩
          have HRN := Lib.hid (show (bindE (ruleE s.size s2) fun r s1 => rulesE s.size m3 (acc ++ [r]) s1) = rulesE s.size ws.length [] (ws, names, []) by rw [← hrun, rules_go hnil])
          clear hlt he3 he2 hrun hnil
          change Code.wp _ _ _ _ (wr.drewN 0)
          repeat (first | go_skip | go_guarded | go_step)
          go_quiet (fail)
          repeat (first | go_skip | go_guarded | go_step)
          refine (pRule_any w.heap.size g ws s.size _ _ (HP.out.drews _)).mono ?_
          rintro e V ⟨sd, tm, p, A, n, c, l, A2, n2, c2, R, M, rfl, ho2, hn7, hoc2, hn10, hp2, hs2, hk2⟩
          have hws : w.heap.size ≤ wr.heap.size := HEND.out.size
          obtain ⟨cs, hbk⟩ := HP.out.bk
          have hO2 : OwRs V w.heap.size A1 c1 n1 Q acc := by
            refine OwRs.kp ?_ hk2 hbk
            exact HO.out.map fun _ _ _ _ _ _ h => h
          have hKV : Below w.heap.size U3 V := (belowDrews HK.out _).trans hk2.below
          have hA2 : OwT V w.heap.size A c n l := ownBase ho2 hws
          have hC2 : OwC V w.heap.size A2 c2 n2 R M := hoc2.lower hws
          obtain ⟨Y, hY⟩ : ∃ Y, Y = V.alloc (.cells #[.bool sd, .bool tm.1, nv tm.2, nv p, .slice A n c, .slice A2 n2 c2] 54) := ⟨_, rfl⟩
          have hT : Bk Y V.heap.size 54 [.bool sd, .bool tm.1, nv tm.2, nv p, .slice A n c, .slice A2 n2 c2] := by rw [hY]; exact Bk.new V _ [.bool sd, .bool tm.1, nv tm.2, nv p, .slice A n c, .slice A2 n2 c2]
          have hbY : Below V.heap.size V Y := by rw [hY]; exact (Below.refl _ _).alloc (Nat.le_refl _) _
          obtain ⟨tb', htb⟩ : ∃ tb', tb' = V.heap.size := ⟨_, rfl⟩
          rw [← htb] at hT
          have HOY := Lib.hid (hO2.later hbY)
          have HAY := Lib.hid (ownBelow hA2 hbY (Nat.le_refl _))
          have HCY := Lib.hid (hC2.later hbY)
          have hs2 : saysE (ruleE s.size s2) ((sd, tm, (p, l)), M) := hs2
          have HS9 := Lib.hid hs2
          have HPY := Lib.hid (show PSt Y w.heap.size g ws s.size (stE (ruleE s.size s2)) from hp2.later hbY)
          have HKY := Lib.hid (show Below w.heap.size U3 Y by rw [hY]; exact hKV.alloc hp2.text _)
          have HY := Lib.hid hY
          have HTB := Lib.hid htb
          have HT := Lib.hid hT
          clear hY htb hT hbY ho2 hoc2 hp2 hs2 hk2 hO2 hKV hA2 hC2 hbk cc0 c1' c3 c5 c6 q0 q1 q3 q5 q6
          dsimp only
          go_upto_region 9 with (fail)
          rw [← HY.out, ← HTB.out]
          clear HY HTB
          have t0 : Y.cell? ⟨tb', 0, none⟩ = some (.bool sd) := HT.out.cell 0
          have t1 : Y.cell? ⟨tb', 1, none⟩ = some (.bool tm.1) := HT.out.cell 1
          have t2 : Y.cell? ⟨tb', 2, none⟩ = some (nv tm.2) := HT.out.cell 2
          have t3 : Y.cell? ⟨tb', 3, none⟩ = some (nv p) := HT.out.cell 3
          have t4 : Y.cell? ⟨tb', 4, none⟩ = some (.slice A n c) := HT.out.cell 4
          have t5 : Y.cell? ⟨tb', 5, none⟩ = some (.slice A2 n2 c2) := HT.out.cell 5
          have hlit := run_litR sd tm.1 tm.2 p A n c A2 n2 c2 Y
          have hbZ : Below Y.heap.size Y (Y.alloc (.cells #[.bool sd, .bool tm.1, nv tm.2, nv p, .slice A n c, .slice A2 n2 c2] 54)) := (Below.refl _ _).alloc (Nat.le_refl _) _
          have HOZ := Lib.hid (HOY.out.later hbZ)
          have HAZ := Lib.hid (ownBelow HAY.out hbZ (Nat.le_refl _))
          have HCZ := Lib.hid (HCY.out.later hbZ)
          have HPZ := Lib.hid (HPY.out.later hbZ)
          have HKZ := Lib.hid (show Below w.heap.size U3 (Y.alloc (.cells #[.bool sd, .bool tm.1, nv tm.2, nv p, .slice A n c, .slice A2 n2 c2] 54)) from HKY.out.alloc HPY.out.text _)
          have HRZ := Lib.hid (show Rd (Y.alloc (.cells #[.bool sd, .bool tm.1, nv tm.2, nv p, .slice A n c, .slice A2 n2 c2] 54)) (Y.alloc (.cells #[.bool sd, .bool tm.1, nv tm.2, nv p, .slice A n c, .slice A2 n2 c2] 54)).heap.size 6 (some ⟨Y.heap.size, 0, none⟩) 1 (ruC (((sd, tm, (p, l)), M), ((A, n, c), (A2, n2, c2), R))) from bk_rd6 (Bk.new Y _ [.bool sd, .bool tm.1, nv tm.2, nv p, .slice A n c, .slice A2 n2 c2]) rfl)
          have hZs : w.heap.size ≤ (Y.alloc (.cells #[.bool sd, .bool tm.1, nv tm.2, nv p, .slice A n c, .slice A2 n2 c2] 54)).heap.size := HPZ.out.text
          have hn1w : n1 ≤ 65536 := by have := HWL.out; omega
          have hU3s : w.heap.size ≤ U3.heap.size := HBU3.out.size
          clear hbZ
          repeat (first
            | (at_builtin; refine appRl _ rfl (.tmp 58) (.tmp 60) rfl w.heap.size A1 c1 n1 Q acc rfl HOZ.out _ _ 1 ((sd, tm, (p, l)), M) ((A, n, c), (A2, n2, c2), R) rfl HRZ.out (by omega) hZs HAZ.out HCZ.out ?_
               intro A3 c3 Z hoZ hgZ
               have htZ := Typ.ofGrown HOZ.out.top hgZ
               have HP5 := Lib.hid (HPZ.out.typ htZ (by decide) (by decide) (by decide))
               have HK5 := Lib.hid (show Below w.heap.size U3 Z from HKZ.out.grown hgZ hZs (fun k hk => (HOZ.out.top.lt k hk).1))
               have HO5 := Lib.hid hoZ
               clear hoZ hgZ htZ hlit)
            | go_skip | go_guarded | go_step)
          cases hte : ruleE s.size s2 with
          | error z =>
            have HTE := Lib.hid hte
            go_roundw
            case rel => exact ⟨.error z, A3, n1 + 1, c3, _, _, rfl, by have h := HP5.out; rw [HTE.out] at h; exact h, HO5.out, HK5.out, Or.inl ⟨z, rfl, by omega, by rw [← HRN.out, HTE.out]; rfl⟩⟩
            case measure =>
              show 70002 - (n1 + 1) < 70002 - n1
              omega
          | ok r =>
            obtain ⟨r, s3⟩ := r
            obtain rfl := HS9.out r s3 hte
            have hl := rules_len hte
            have HTE := Lib.hid hte
            go_roundw
            case rel => exact ⟨.ok s3, A3, n1 + 1, c3, _, _, rfl, by have h := HP5.out; rw [HTE.out] at h; exact h, HO5.out, HK5.out, Or.inr ⟨s3, m3, rfl, by omega, by omega, by rw [← HRN.out, HTE.out]; rfl⟩⟩
            case measure =>
              show 70002 - (n1 + 1) < 70002 - n1
              omega
  · have dz : ((z : Int) != 0) = true := by rw [bne_iff_ne]; omega
    have HPL := Lib.hid (show parseL names (tb s) = ([], names, y, z) by rw [HPL.out, if_pos hz])
    clear hz
    repeat (first | go_skip | go_guarded | go_step)
    (try simp only [Exit.inBlock, Exit.then])
    refine bodyPost_ret (results_tmp4 rfl _ _ _) rfl ?_
    exact ⟨none, 0, 0, A0, n0, c0, [], [], names, y, z, rfl, OwRs.nil _ _, by omega, (HR0.out.below HB1.out).more HB1.out.size, HB1.out, HPL.out.symm⟩
end Go.Proofs.YtoigpbajefkpoaaGreatDoor

set_option linter.unusedVariables false
set_option linter.unusedSimpArgs false
namespace Go.Proofs.YtoigpbajefkpoaaGreatDoor
open Go Go.RowKit

set_option maxRecDepth 100000 in
set_option maxHeartbeats 1000000 in
theorem stand_any (x : UInt8) (w : World) :
  Calls Tryz.prog 68 #[.int .u8 (x.toNat : Int)] w fun e w' => e = .returned (.bool (okB x)) ∧ w = w' := by
 have hx256 := u8_lt x
 rcases (by omega : (0 ≤ x.toNat ∧ x.toNat ≤ 47) ∨ (48 ≤ x.toNat ∧ x.toNat ≤ 57) ∨ (58 ≤ x.toNat ∧ x.toNat ≤ 64) ∨ (65 ≤ x.toNat ∧ x.toNat ≤ 90) ∨ (91 ≤ x.toNat ∧ x.toNat ≤ 94) ∨ (95 ≤ x.toNat ∧ x.toNat ≤ 95) ∨ (96 ≤ x.toNat ∧ x.toNat ≤ 96) ∨ (97 ≤ x.toNat ∧ x.toNat ≤ 122) ∨ (123 ≤ x.toNat ∧ x.toNat ≤ 255)) with hc | hc | hc | hc | hc | hc | hc | hc | hc
 ·
  have d1 : decide ((97 : Int) ≤ (x.toNat : Int)) = false := by simp; omega
  have d2 : decide ((x.toNat : Int) ≤ 122) = true := by simp; omega
  have d3 : decide ((65 : Int) ≤ (x.toNat : Int)) = false := by simp; omega
  have d4 : decide ((x.toNat : Int) ≤ 90) = true := by simp; omega
  have d5 : decide ((48 : Int) ≤ (x.toNat : Int)) = false := by simp; omega
  have d6 : decide ((x.toNat : Int) ≤ 57) = true := by simp; omega
  have d7 : ((x.toNat : Int) == 95) = false := by simp; omega
  have ho : okB x = false := by unfold okB; simp; omega
  have HO := Lib.hid ho
  clear ho hc
  go_enter Tryz.func68, Tryz.ntmps68
  go_wp2
  go_ret
  exact ⟨by rw [HO.out]; rfl, rfl⟩
 ·
  have d1 : decide ((97 : Int) ≤ (x.toNat : Int)) = false := by simp; omega
  have d2 : decide ((x.toNat : Int) ≤ 122) = true := by simp; omega
  have d3 : decide ((65 : Int) ≤ (x.toNat : Int)) = false := by simp; omega
  have d4 : decide ((x.toNat : Int) ≤ 90) = true := by simp; omega
  have d5 : decide ((48 : Int) ≤ (x.toNat : Int)) = true := by simp; omega
  have d6 : decide ((x.toNat : Int) ≤ 57) = true := by simp; omega
  have d7 : ((x.toNat : Int) == 95) = false := by simp; omega
  have ho : okB x = true := by unfold okB; simp; omega
  have HO := Lib.hid ho
  clear ho hc
  go_enter Tryz.func68, Tryz.ntmps68
  go_wp2
  go_ret
  exact ⟨by rw [HO.out]; rfl, rfl⟩
 ·
  have d1 : decide ((97 : Int) ≤ (x.toNat : Int)) = false := by simp; omega
  have d2 : decide ((x.toNat : Int) ≤ 122) = true := by simp; omega
  have d3 : decide ((65 : Int) ≤ (x.toNat : Int)) = false := by simp; omega
  have d4 : decide ((x.toNat : Int) ≤ 90) = true := by simp; omega
  have d5 : decide ((48 : Int) ≤ (x.toNat : Int)) = true := by simp; omega
  have d6 : decide ((x.toNat : Int) ≤ 57) = false := by simp; omega
  have d7 : ((x.toNat : Int) == 95) = false := by simp; omega
  have ho : okB x = false := by unfold okB; simp; omega
  have HO := Lib.hid ho
  clear ho hc
  go_enter Tryz.func68, Tryz.ntmps68
  go_wp2
  go_ret
  exact ⟨by rw [HO.out]; rfl, rfl⟩
 ·
  have d1 : decide ((97 : Int) ≤ (x.toNat : Int)) = false := by simp; omega
  have d2 : decide ((x.toNat : Int) ≤ 122) = true := by simp; omega
  have d3 : decide ((65 : Int) ≤ (x.toNat : Int)) = true := by simp; omega
  have d4 : decide ((x.toNat : Int) ≤ 90) = true := by simp; omega
  have d5 : decide ((48 : Int) ≤ (x.toNat : Int)) = true := by simp; omega
  have d6 : decide ((x.toNat : Int) ≤ 57) = false := by simp; omega
  have d7 : ((x.toNat : Int) == 95) = false := by simp; omega
  have ho : okB x = true := by unfold okB; simp; omega
  have HO := Lib.hid ho
  clear ho hc
  go_enter Tryz.func68, Tryz.ntmps68
  go_wp2
  go_ret
  exact ⟨by rw [HO.out]; rfl, rfl⟩
 ·
  have d1 : decide ((97 : Int) ≤ (x.toNat : Int)) = false := by simp; omega
  have d2 : decide ((x.toNat : Int) ≤ 122) = true := by simp; omega
  have d3 : decide ((65 : Int) ≤ (x.toNat : Int)) = true := by simp; omega
  have d4 : decide ((x.toNat : Int) ≤ 90) = false := by simp; omega
  have d5 : decide ((48 : Int) ≤ (x.toNat : Int)) = true := by simp; omega
  have d6 : decide ((x.toNat : Int) ≤ 57) = false := by simp; omega
  have d7 : ((x.toNat : Int) == 95) = false := by simp; omega
  have ho : okB x = false := by unfold okB; simp; omega
  have HO := Lib.hid ho
  clear ho hc
  go_enter Tryz.func68, Tryz.ntmps68
  go_wp2
  go_ret
  exact ⟨by rw [HO.out]; rfl, rfl⟩
 ·
  have d1 : decide ((97 : Int) ≤ (x.toNat : Int)) = false := by simp; omega
  have d2 : decide ((x.toNat : Int) ≤ 122) = true := by simp; omega
  have d3 : decide ((65 : Int) ≤ (x.toNat : Int)) = true := by simp; omega
  have d4 : decide ((x.toNat : Int) ≤ 90) = false := by simp; omega
  have d5 : decide ((48 : Int) ≤ (x.toNat : Int)) = true := by simp; omega
  have d6 : decide ((x.toNat : Int) ≤ 57) = false := by simp; omega
  have d7 : ((x.toNat : Int) == 95) = true := by simp; omega
  have ho : okB x = true := by unfold okB; simp; omega
  have HO := Lib.hid ho
  clear ho hc
  go_enter Tryz.func68, Tryz.ntmps68
  go_wp2
  go_ret
  exact ⟨by rw [HO.out]; rfl, rfl⟩
 ·
  have d1 : decide ((97 : Int) ≤ (x.toNat : Int)) = false := by simp; omega
  have d2 : decide ((x.toNat : Int) ≤ 122) = true := by simp; omega
  have d3 : decide ((65 : Int) ≤ (x.toNat : Int)) = true := by simp; omega
  have d4 : decide ((x.toNat : Int) ≤ 90) = false := by simp; omega
  have d5 : decide ((48 : Int) ≤ (x.toNat : Int)) = true := by simp; omega
  have d6 : decide ((x.toNat : Int) ≤ 57) = false := by simp; omega
  have d7 : ((x.toNat : Int) == 95) = false := by simp; omega
  have ho : okB x = false := by unfold okB; simp; omega
  have HO := Lib.hid ho
  clear ho hc
  go_enter Tryz.func68, Tryz.ntmps68
  go_wp2
  go_ret
  exact ⟨by rw [HO.out]; rfl, rfl⟩
 ·
  have d1 : decide ((97 : Int) ≤ (x.toNat : Int)) = true := by simp; omega
  have d2 : decide ((x.toNat : Int) ≤ 122) = true := by simp; omega
  have d3 : decide ((65 : Int) ≤ (x.toNat : Int)) = true := by simp; omega
  have d4 : decide ((x.toNat : Int) ≤ 90) = false := by simp; omega
  have d5 : decide ((48 : Int) ≤ (x.toNat : Int)) = true := by simp; omega
  have d6 : decide ((x.toNat : Int) ≤ 57) = false := by simp; omega
  have d7 : ((x.toNat : Int) == 95) = false := by simp; omega
  have ho : okB x = true := by unfold okB; simp; omega
  have HO := Lib.hid ho
  clear ho hc
  go_enter Tryz.func68, Tryz.ntmps68
  go_wp2
  go_ret
  exact ⟨by rw [HO.out]; rfl, rfl⟩
 ·
  have d1 : decide ((97 : Int) ≤ (x.toNat : Int)) = true := by simp; omega
  have d2 : decide ((x.toNat : Int) ≤ 122) = false := by simp; omega
  have d3 : decide ((65 : Int) ≤ (x.toNat : Int)) = true := by simp; omega
  have d4 : decide ((x.toNat : Int) ≤ 90) = false := by simp; omega
  have d5 : decide ((48 : Int) ≤ (x.toNat : Int)) = true := by simp; omega
  have d6 : decide ((x.toNat : Int) ≤ 57) = false := by simp; omega
  have d7 : ((x.toNat : Int) == 95) = false := by simp; omega
  have ho : okB x = false := by unfold okB; simp; omega
  have HO := Lib.hid ho
  clear ho hc
  go_enter Tryz.func68, Tryz.ntmps68
  go_wp2
  go_ret
  exact ⟨by rw [HO.out]; rfl, rfl⟩

set_option maxRecDepth 100000 in
set_option maxHeartbeats 1000000 in
theorem may_any (s : ByteArray) (w : World) (hs : s.size ≤ 1099511627776) :
  Calls Tryz.prog 43 #[sv s] w fun e w' => e = .returned (.bool (mayB s)) ∧ w = w' := by
 by_cases h1 : 1 ≤ s.size
 ·
  have e1 : decide ((s.size : Int) < 1) = false := by simp; omega
  by_cases h2 : s.size ≤ 32
  ·
   have e2 : decide ((s.size : Int) > 32) = false := by simp; omega
   have e3 : decide ((32 : Int) < (s.size : Int)) = false := by simp; omega
   go_enter Tryz.func43, Tryz.ntmps43
   repeat go_step
   go_loop [14] (fun p => ∃ i : Nat, i ≤ s.size ∧ p = .int .i64 (i : Int) ∧ (s.data.toList.take i).all okB = true) (fun p => s.size - (intOf p).toNat)
   case atStart => exact ⟨0, by omega, rfl, by simp⟩
   case round =>
    obtain ⟨i, hi, rfl, hal⟩ := hrel
    by_cases hlt : i < s.size
    ·
     have hci : (i : Int) < (s.size : Int) := by omega
     obtain ⟨x, hx⟩ : ∃ x, s[i]'hlt = x := ⟨_, rfl⟩
     have hxi : s.data.toList[i]? = some x := by
      rw [← hx]
      have hl : i < s.data.toList.length := by simpa using hlt
      rw [List.getElem?_eq_getElem hl]
      simp [ByteArray.getElem_eq_getElem_data]
     have HX := Lib.hid hxi
     have HAL := Lib.hid hal
     clear hxi hal
     repeat go_step
     refine (stand_any x _).mono ?_
     rintro e w1 ⟨rfl, rfl⟩
     dsimp only
     cases ho : okB x with
     | false =>
      have HO := Lib.hid ho
      clear ho
      go_wp2
      go_ret
      exact ⟨by unfold mayB; rw [all_not _ _ _ HX.out HO.out]; rfl, rfl⟩
     | true =>
      have HO := Lib.hid ho
      clear ho
      go_wp2
      go_round
      case rel => exact ⟨i + 1, by omega, by go_num, by rw [all_take _ _ _ HX.out, HAL.out, HO.out]; rfl⟩
      case measure => simp [intOf]; omega
    ·
     obtain rfl : i = s.size := by omega
     have ha : s.data.toList.all okB = true := by rwa [List.take_of_length_le (by simp)] at hal
     have HA := Lib.hid ha
     clear hal ha hlt
     go_wp2
     go_ret
     exact ⟨by unfold mayB; rw [HA.out, decide_eq_true h1, decide_eq_true h2]; rfl, rfl⟩
  ·
   have e2 : decide ((s.size : Int) > 32) = true := by simp; omega
   have e3 : decide ((32 : Int) < (s.size : Int)) = true := by simp; omega
   have hm : mayB s = false := by unfold mayB; rw [decide_eq_false h2]; simp
   have HM := Lib.hid hm
   clear hm
   go_enter Tryz.func43, Tryz.ntmps43
   go_wp2
   go_ret
   exact ⟨by rw [HM.out]; rfl, rfl⟩
 ·
  have e1 : decide ((s.size : Int) < 1) = true := by simp; omega
  have hm : mayB s = false := by unfold mayB; rw [decide_eq_false h1]; simp
  have HM := Lib.hid hm
  clear hm
  go_enter Tryz.func43, Tryz.ntmps43
  go_wp2
  go_ret
  exact ⟨by rw [HM.out]; rfl, rfl⟩
end Go.Proofs.YtoigpbajefkpoaaGreatDoor

