/- Layer 6 (wire): an own row of conditions, each with an own row of terms; what is appended to it. -/
import Derived.Test.YtcoafgnbmgndeaaWrK
import Derived.Test.YtcoafgnbmgndeaaWrF
set_option linter.unusedVariables false
set_option linter.unusedSimpArgs false
namespace Go.Proofs.Ytcoafgnbmgndeaa
open Go Go.RowKit

/-- An own row of things of s cells, each with an own row of terms that lies apart from it. -/
structure OwG {α : Type} (e : TypeId) (s : Nat) (cl : α × SlA → List Value) (tm : α → List Tm) (w : World) (base : Nat) (A : Option Addr) (c n : Nat) (R : List SlA) (L : List α) : Prop where
  lenR : R.length = n
  lenL : L.length = n
  top : w.ownsRow base e s (.slice A n c) n ((L.zip R).flatMap cl)
  row : ∀ (i : Nat) (r : SlA) (x : α), R[i]? = some r → L[i]? = some x → OwT w base r.1 r.2.2 r.2.1 (tm x) ∧ ∀ k, r.val.ownBlock = some k → (Value.slice A n c).ownBlock ≠ some k
section
variable {α : Type} {e : TypeId} {s : Nat} {cl : α × SlA → List Value} {tm : α → List Tm} {w w' : World} {base : Nat} {A : Option Addr} {c n : Nat} {R : List SlA} {L : List α}
theorem OwG.nil (w : World) (base : Nat) : OwG e s cl tm w base none 0 0 [] [] :=
  ⟨rfl, rfl, World.ownsRow_nil _ _ _ _, fun i r x h => by simp at h⟩
theorem OwG.turn {G : Nat → Prop} (h : OwG e s cl tm w base A c n R L) (ht : Turn G w w') (hn : ∀ k, base ≤ k → ¬ G k) : OwG e s cl tm w' base A c n R L :=
  ⟨h.lenR, h.lenL, ht.own h.top (fun k hk => hn k (World.ownsRow.lt h.top k hk).1), fun i r x h1 h2 => ⟨ht.own (h.row i r x h1 h2).1 (fun k hk => hn k (World.ownsRow.lt (h.row i r x h1 h2).1 k hk).1), (h.row i r x h1 h2).2⟩⟩
theorem OwG.later (h : OwG e s cl tm w base A c n R L) (hb : Below w.heap.size w w') : OwG e s cl tm w' base A c n R L :=
  ⟨h.lenR, h.lenL, ownBelow h.top hb (Nat.le_refl _), fun i r x h1 h2 => ⟨ownBelow (h.row i r x h1 h2).1 hb (Nat.le_refl _), (h.row i r x h1 h2).2⟩⟩
theorem OwG.snoc (h : OwG e s cl tm w base A c n R L) {r : SlA} {x : α} (hr : OwT w base r.1 r.2.2 r.2.1 (tm x)) {H : Nat} (h1 : ∀ k, (Value.slice A n c).ownBlock = some k → k < H) (h2 : ∀ k, r.val.ownBlock = some k → H ≤ k)
    {A' : Option Addr} {c' : Nat} (ho : w'.ownsRow base e s (.slice A' (n + 1) c') (n + 1) ((L.zip R).flatMap cl ++ cl (x, r))) (hg : w.grownBy w' (Value.slice A n c).ownBlock)
    (hb : (Value.slice A' (n + 1) c').ownBlock = (Value.slice A n c).ownBlock ∨ (Value.slice A' (n + 1) c').ownBlock = some w.heap.size) : OwG e s cl tm w' base A' c' (n + 1) (R ++ [r]) (L ++ [x]) := by
  have ht : Turn (fun k => (Value.slice A n c).ownBlock = some k) w w' := Turn.ofGrown hg (fun _ h => h)
  refine ⟨by simp [h.lenR], by simp [h.lenL], ?_, ?_⟩
  · rw [List.zip_append (by rw [h.lenL, h.lenR]), List.flatMap_append]
    simpa using ho
  · intro i r' x' e1 e2
    have key : ∀ (r : SlA) (x : α), OwT w base r.1 r.2.2 r.2.1 (tm x) → (∀ k, r.val.ownBlock = some k → (Value.slice A n c).ownBlock ≠ some k) → OwT w' base r.1 r.2.2 r.2.1 (tm x) ∧ ∀ k, r.val.ownBlock = some k → (Value.slice A' (n + 1) c').ownBlock ≠ some k := by
      intro r x a1 a2
      refine ⟨ht.own a1 (fun k hk hG => a2 k hk hG), fun k hk hc => ?_⟩
      rcases hb with hb | hb
      · rw [hb] at hc
        exact a2 k hk hc
      · rw [hb] at hc
        have := (World.ownsRow.lt a1 k hk).2
        have := Option.some.inj hc
        omega
    by_cases hi : i < n
    · rw [List.getElem?_append_left (by rw [h.lenR]; exact hi)] at e1
      rw [List.getElem?_append_left (by rw [h.lenL]; exact hi)] at e2
      exact key _ _ (h.row i r' x' e1 e2).1 (h.row i r' x' e1 e2).2
    · have hil : i = n := by
        have := (List.getElem?_eq_some_iff.1 e1).1
        simp only [List.length_append, List.length_cons, List.length_nil, h.lenR] at this
        omega
      subst hil
      rw [List.getElem?_append_right (by rw [h.lenR]; omega), h.lenR, Nat.sub_self] at e1
      rw [List.getElem?_append_right (by rw [h.lenL]; omega), h.lenL, Nat.sub_self] at e2
      simp only [List.getElem?_cons_zero, Option.some.injEq] at e1 e2
      subst e1 e2
      exact key _ _ hr (fun k hk hc => by have := h1 k hc; have := h2 k hk; omega)
end
abbrev OwL := @OwG Li 71 3 liC (fun x => x.2.2)
abbrev OwK := @OwG Co 99 6 coC (fun x => x.2.2.2.2)
section
variable {w w' : World} {base : Nat} {A : Option Addr} {c n : Nat} {R : List SlA}
theorem OwL.rd {L : List Li} (h : OwL w base A c n R L) : RdL w w.heap.size A n R L :=
  ⟨h.lenR, h.lenL, Rd.ofOwn h.top, fun i r x h1 h2 => OwT.rd (h.row i r x h1 h2).1⟩
theorem OwK.rd {L : List Co} (h : OwK w base A c n R L) : RdK w w.heap.size A n R L :=
  ⟨h.lenR, h.lenL, Rd.ofOwn h.top, fun i r x h1 h2 => OwT.rd (h.row i r x h1 h2).1⟩
theorem RdL.nil (w : World) (B : Nat) : RdL w B none 0 [] [] := ⟨rfl, rfl, Rd.nil, fun i r x h => by simp at h⟩
theorem RdK.nil (w : World) (B : Nat) : RdK w B none 0 [] [] := ⟨rfl, rfl, Rd.nil, fun i r x h => by simp at h⟩
theorem OwG.cap {α : Type} {e : TypeId} {s : Nat} {cl : α × SlA → List Value} {tm : α → List Tm} {L : List α} (h : OwG e s cl tm w base A c n R L) : n ≤ c := by
  obtain ⟨A1, c1, hv, hl⟩ := ownForm h.top
  cases hv
  exact hl
end
theorem litInfo : (Try.prog.info? 71).map (fun i => (i.zero, i.size, i.bytes)) = some (some (.agg #[.bool false, .int .u32 0, .slice none 0 0]), 3, 40) := by kernel_rfl
theorem condInfo : (Try.prog.info? 99).map (fun i => (i.zero, i.size, i.bytes)) = some (some (.agg #[.bool false, .bool false, .bool false, .int .u32 0, .int .u32 0, .slice none 0 0]), 6, 56) := by kernel_rfl
theorem liC_one (z : Li × SlA) : ∀ u ∈ liC z, u.oneCell' = true := by
  intro u hu
  simp only [liC, List.mem_cons, List.not_mem_nil, or_false] at hu
  rcases hu with rfl | rfl | rfl <;> rfl
theorem coC_one (z : Co × SlA) : ∀ u ∈ coC z, u.oneCell' = true := by
  intro u hu
  simp only [coC, List.mem_cons, List.not_mem_nil, or_false] at hu
  rcases hu with rfl | rfl | rfl | rfl | rfl | rfl <;> rfl
/-- 'out = append(out, x)' over a clause's conditions. -/
theorem appL {ops : Array Oper} {rest : List Oper} {o : Oper} {a : Act} {Q : Exit → Act → World → Prop} (w : World) (hgd : o.guard = none) (p x : Operand)
    (ho : o.op = .call { callee := .builtin .append, args := #[p, x], argTypes := #[43, 43] })
    (base : Nat) (A0 : Option Addr) (c0 n : Nat) (R : List SlA) (L : List Li) (hv : a.eval p = .slice A0 n c0) (hown : OwL w base A0 c0 n R L)
    (B : Nat) (A : Option Addr) (c : Nat) (y : Li) (r : SlA) (hx : a.eval x = .slice A 1 c) (hr : Rd w B 3 A 1 (liC (y, r))) (hb : n + 1 ≤ 1000000000) (hbase : base ≤ w.heap.size)
    (hrow : OwT w base r.1 r.2.2 r.2.1 y.2.2) (H : Nat) (h1 : ∀ k, (Value.slice A0 n c0).ownBlock = some k → k < H) (h2 : ∀ k, r.val.ownBlock = some k → H ≤ k)
    (h : ∀ A' c' w', OwL w' base A' c' (n + 1) (R ++ [r]) (L ++ [y]) → Below base w w' → wpList Try.prog ops Q rest (a.put o.dst (.slice A' (n + 1) c')) w') : wpList Try.prog ops Q (o :: rest) a w := by
  obtain ⟨i0, hi, hz0, hz1, hz2⟩ := info_parts litInfo
  refine wpList_app w hgd p x 43 ho base 71 i0 _ 3 40 Try.underlying43 hi hz0 hz1 hz2 rfl (by decide) _ n _ hv hown.top B A 1 c _ hx hr (liC_one (y, r)) (by simp only [maxLen]; omega) (by omega) hbase ?_
  intro A' c' w' e1 e2 e3
  exact h A' c' w' (hown.snoc (r := r) (x := y) hrow h1 h2 e1 e2 e3) (belowApp (Below.refl _ _) hown.top e2 hbase)
/-- 'out = append(out, x)' over a rule's conditions. -/
theorem appK {ops : Array Oper} {rest : List Oper} {o : Oper} {a : Act} {Q : Exit → Act → World → Prop} (w : World) (hgd : o.guard = none) (p x : Operand)
    (ho : o.op = .call { callee := .builtin .append, args := #[p, x], argTypes := #[57, 57] })
    (base : Nat) (A0 : Option Addr) (c0 n : Nat) (R : List SlA) (L : List Co) (hv : a.eval p = .slice A0 n c0) (hown : OwK w base A0 c0 n R L)
    (B : Nat) (A : Option Addr) (c : Nat) (y : Co) (r : SlA) (hx : a.eval x = .slice A 1 c) (hr : Rd w B 6 A 1 (coC (y, r))) (hb : n + 1 ≤ 1000000000) (hbase : base ≤ w.heap.size)
    (hrow : OwT w base r.1 r.2.2 r.2.1 y.2.2.2.2) (H : Nat) (h1 : ∀ k, (Value.slice A0 n c0).ownBlock = some k → k < H) (h2 : ∀ k, r.val.ownBlock = some k → H ≤ k)
    (h : ∀ A' c' w', OwK w' base A' c' (n + 1) (R ++ [r]) (L ++ [y]) → Below base w w' → wpList Try.prog ops Q rest (a.put o.dst (.slice A' (n + 1) c')) w') : wpList Try.prog ops Q (o :: rest) a w := by
  obtain ⟨i0, hi, hz0, hz1, hz2⟩ := info_parts condInfo
  refine wpList_app w hgd p x 57 ho base 99 i0 _ 6 56 Try.underlying57 hi hz0 hz1 hz2 rfl (by decide) _ n _ hv hown.top B A 1 c _ hx hr (coC_one (y, r)) (by simp only [maxLen]; omega) (by omega) hbase ?_
  intro A' c' w' e1 e2 e3
  exact h A' c' w' (hown.snoc (r := r) (x := y) hrow h1 h2 e1 e2 e3) (belowApp (Below.refl _ _) hown.top e2 hbase)
theorem run_litL1 (g : Bool) (q : UInt32) (A : Option Addr) (n c : Nat) (w : World) : (Instr.buildSlice 43 1 #[(0, .agg #[.bool g, nv q, .slice A n c])]).run Try.prog w = .ok (.slice (some ⟨w.heap.size, 0, none⟩) 1 1) (w.alloc (.cells #[.bool g, nv q, .slice A n c] 71)) := by
  obtain ⟨i0, hi, hz0, hz1, hz2⟩ := info_parts litInfo
  simp [Instr.buildSlice, run_underlying Try.underlying43, sizeOf, typeInfo, zeroValue, hi, hz0, hz1, newRow, Instr.fill]
  kernel_rfl
theorem run_litK1 (g s : Bool) (x : Tm) (q : UInt32) (A : Option Addr) (n c : Nat) (w : World) : (Instr.buildSlice 57 1 #[(0, .agg #[.bool g, .bool s, .bool x.1, nv x.2, nv q, .slice A n c])]).run Try.prog w = .ok (.slice (some ⟨w.heap.size, 0, none⟩) 1 1) (w.alloc (.cells #[.bool g, .bool s, .bool x.1, nv x.2, nv q, .slice A n c] 99)) := by
  obtain ⟨i0, hi, hz0, hz1, hz2⟩ := info_parts condInfo
  simp [Instr.buildSlice, run_underlying Try.underlying57, sizeOf, typeInfo, zeroValue, hi, hz0, hz1, newRow, Instr.fill]
  kernel_rfl
theorem bk_rdS {w : World} {g : Nat} {t : TypeId} {cs : List Value} (hb : Bk w g t cs) (s : Nat) (hs : cs.length = 1 * s) : Rd w (g + 1) s (some ⟨g, 0, none⟩) 1 cs :=
  ⟨hs, fun _ => ⟨g, 0, rfl, by omega, fun j u hu => by rw [Nat.zero_add, hb.cell]; exact hu⟩⟩
theorem AfterW.ansIf {α : Type} {p : Rdr α} {bs : List UInt8} {k k' : Nat} {bad : Bool} {x : α} (z : α) (f : α → Bool) (hk : k ≤ bs.length) (hk' : k' ≤ bs.length) (h : AfterW ((rest bs k false).bind p) bs k' bad x) :
    takeAns (rIf p f) z bs (k : Nat) = if bad || !f x then (z, 0, 5) else (x, k', 0) := by
  have h : AfterW (p (bs.drop k)) bs k' bad x := h
  unfold takeAns rIf
  rw [if_neg (by omega), Int.toNat_natCast]
  cases hp : p (bs.drop k) with
  | none =>
    rw [hp] at h
    have h : bad = true := h
    subst h
    rfl
  | some q =>
    obtain ⟨y, r⟩ := q
    rw [hp] at h
    obtain ⟨rfl, rfl, rfl⟩ := h
    dsimp only
    cases hf : f x with
    | false => simp
    | true =>
      simp only [List.length_drop, if_true, Bool.not_true, Bool.or_false, Bool.false_eq_true, if_false]
      rw [show bs.length - (bs.length - k') = k' from by omega]
end Go.Proofs.Ytcoafgnbmgndeaa
