/- Texts, packed: PaV PaO PaY PaX PaZ SyX -/
import Derived.Test.YtoigpbajefkpoaaGreatDoorPyE
import Derived.Test.YtoigpbajefkpoaaGreatDoorPyF
import Derived.Test.YtoigpbajefkpoaaGreatDoorPyA
set_option linter.unusedVariables false
set_option linter.unusedSimpArgs false
namespace Go.Proofs.YtoigpbajefkpoaaGreatDoor
open Go Go.RowKit

/-- Of what is there, blocks of e's alone turn. -/
structure Typ (e : TypeId) (w w' : World) : Prop where
 os : w'.os = w.os
 tape : w'.tape = w.tape
 output : w'.output = w.output
 size : w.heap.size ≤ w'.heap.size
 block : ∀ (k : Nat) (cs : Array Value) (t : TypeId) (fr : Nat × Nat), w.heap[k]? = some (Obj.cells cs t fr) → t ≠ e → w'.heap[k]? = some (Obj.cells cs t fr)
theorem Typ.refl (e : TypeId) (w : World) : Typ e w w := ⟨rfl, rfl, rfl, Nat.le_refl _, fun _ _ _ _ h _ => h⟩
theorem Typ.bk {e T : TypeId} {w w' : World} {b : Nat} {cs : List Value} (h : Typ e w w') (hb : Bk w b T cs) (hT : T ≠ e) : Bk w' b T cs := h.block _ _ _ _ hb hT
theorem Typ.own {e e' : TypeId} {w w' : World} {base s n : Nat} {v : Value} {xs : List Value} (h : Typ e w w') (ho : w.ownsRow base e' s v n xs) (hT : e' ≠ e) : w'.ownsRow base e' s v n xs := by
 rcases ho.2 with ⟨rfl, h0⟩ | ⟨g', cap, cur, rfl, hg, hc, rest⟩
 ·
  exact ⟨ho.1, Or.inl ⟨rfl, h0⟩⟩
 ·
  exact ⟨ho.1, Or.inr ⟨g', cap, cur, rfl, hg, h.block _ _ _ _ hc hT, rest⟩⟩
theorem Typ.ofGrown {e : TypeId} {w w' : World} {base s n : Nat} {v : Value} {xs : List Value} (ho : w.ownsRow base e s v n xs) (hg : w.grownBy w' v.ownBlock) : Typ e w w' := by
 refine ⟨hg.os, hg.tape, hg.output, hg.size, fun k cs t fr hk ht => ?_⟩
 rw [hg.block k (Array.getElem?_eq_some_iff.1 hk).1 ?_]
 ·
  exact hk
 ·
  intro hv
  rcases ho.2 with ⟨rfl, _⟩ | ⟨g', cap, cur, rfl, _, hc, _⟩
  ·
   simp [Value.ownBlock] at hv
  ·
   simp only [Value.ownBlock, Option.some.injEq] at hv
   subst hv
   rw [hk] at hc
   simp only [Option.some.injEq, Obj.cells.injEq] at hc
   exact ht hc.2.1
theorem Typ.ofBelow {e : TypeId} {w w' : World} (h : Below w.heap.size w w') : Typ e w w' := ⟨h.os, h.tape, h.output, h.size, fun k cs t fr hk _ => (h.block k (Array.getElem?_eq_some_iff.1 hk).1).trans hk⟩
theorem Typ.trans {e : TypeId} {a b c : World} (h : Typ e a b) (k : Typ e b c) : Typ e a c := ⟨k.os.trans h.os, k.tape.trans h.tape, k.output.trans h.output, Nat.le_trans h.size k.size, fun i cs t fr hi ht => k.block _ _ _ _ (h.block _ _ _ _ hi ht) ht⟩
/-- A row that was made since then may grow. -/
theorem Kp.grown {base g : Nat} {w V W : World} {e : TypeId} {b0 s n : Nat} {v : Value} {xs : List Value} (h : Kp base g w V) (ho : V.ownsRow b0 e s v n xs) (hb0 : w.heap.size ≤ b0) (hb : base ≤ b0) (hV : base ≤ V.heap.size) (hg : V.grownBy W v.ownBlock) : Kp base g w W := by
 refine ⟨h.below.grown hg hV (fun k hk => Nat.le_trans hb (ho.lt k hk).1), fun k o hk hb1 ho1 => ?_⟩
 have h4 := h.kept k o hk hb1 ho1
 have hl : k < w.heap.size := (Array.getElem?_eq_some_iff.1 hk).1
 rw [hg.block k (Array.getElem?_eq_some_iff.1 h4).1 (fun e1 => by have := (ho.lt k e1.symm).1; omega)]
 exact h4
theorem tInfo : (Tryz.prog.info? 46).map (fun i => (i.zero, i.size, i.bytes)) = some (some (.agg #[.bool false, .int .u32 0]), 2, 8) := by kernel_rfl
theorem run_litTm (u v : Value) (w : World) : (Instr.buildSlice 47 1 #[(0, .agg #[u, v])]).run Tryz.prog w = .ok (.slice (some ⟨w.heap.size, 0, none⟩) 1 1) (w.alloc (.cells #[u, v] 46)) := by
 obtain ⟨i0, hi, hz0, hz1, hz2⟩ := info_parts tInfo
 simp [Instr.buildSlice, run_underlying Tryz.underlying47, sizeOf, typeInfo, zeroValue, hi, hz0, hz1, newRow, Instr.fill]
 kernel_rfl
/-- 'l = append(l, t)', over terms. -/
theorem appTt {ops : Array Oper} {rest : List Oper} {o : Oper} {a : Act} {Q : Exit → Act → World → Prop} (w : World) (hgd : o.guard = none) (p x : Operand)
  (ho : o.op = .call { callee := .builtin .append, args := #[p, x], argTypes := #[47, 47] })
  (base : Nat) (A0 : Option Addr) (c0 n : Nat) (l : List Tm) (hv : a.eval p = .slice A0 n c0) (hown : OwT w base A0 c0 n l)
  (B : Nat) (A : Option Addr) (m c : Nat) (news : List Tm) (hx : a.eval x = .slice A m c) (hr : RdT w B A m news) (hb : n + m ≤ 1000000000) (hbase : base ≤ w.heap.size)
  (h : ∀ A' c' w', OwT w' base A' c' (n + m) (l ++ news) → w.grownBy w' (Value.slice A0 n c0).ownBlock → wpList Tryz.prog ops Q rest (a.put o.dst (.slice A' (n + m) c')) w') : wpList Tryz.prog ops Q (o :: rest) a w := by
 obtain ⟨i0, hi, hz0, hz1, hz2⟩ := info_parts tInfo
 refine wpList_app w hgd p x 47 ho base 46 i0 _ 2 8 Tryz.underlying47 hi hz0 hz1 hz2 rfl (by decide) _ n _ hv hown B A m c _ hx hr (tmCs_one news) (by simp only [maxLen]; omega) (by omega) hbase ?_
 intro A' c' w' h1 h2 h3
 exact h A' c' w' (by show World.ownsRow _ _ _ _ _ _ _; unfold tmCs at *; rw [List.flatMap_append]; exact h1) h2
/-- The len of a slice that lies in memory. -/
def slN (v : Option Value) : Nat := match v with | some (.slice _ n _) => n | _ => 0
theorem tmBk_rd {w : World} {b : Nat} {tm : Tm} (h : Bk w b 46 [.bool tm.1, nv tm.2]) : RdT w w.heap.size (some ⟨b, 0, none⟩) 1 [tm] :=
 ⟨rfl, fun _ => ⟨b, 0, rfl, h.lt, fun j u hu => by rw [Nat.zero_add, h.cell]; simpa [tmCs, tmC] using hu⟩⟩
end Go.Proofs.YtoigpbajefkpoaaGreatDoor

set_option linter.unusedVariables false
set_option linter.unusedSimpArgs false
namespace Go.Proofs.YtoigpbajefkpoaaGreatDoor
open Go Go.RowKit

theorem atom_end {w : World} {r : Nat} {x0 x1 : Value} (h : Bk w r 49 [x0, x1]) (u v : Value) : Bk ((w.setCell ⟨r, 0, none⟩ u).setCell ⟨r, 1, none⟩ v) r 49 [u, v] := (h.set_ 0 u).set_ 1 v
/-- What lies in memory while an atom is read. -/
structure EnvA (base g : Nat) (ws : List Wd) (sz : Nat) (w : World) (ab rr : Nat) (p : UInt32) (wr : World) (y : Except PE PS) (A : Option Addr) (n c : Nat) (l : List Tm) : Prop where
 st : PSt wr base g ws sz y
 a : Bk wr ab 49 [nv p, .slice A n c]
 r : Bk wr rr 49 [.int .u32 0, .slice none 0 0]
 own : OwT wr w.heap.size A c n l
 kp : Kp base g w wr
section
variable {base g sz ab rr n c : Nat} {ws : List Wd} {w wr V : World} {p : UInt32} {y y' : Except PE PS} {A : Option Addr} {l : List Tm}
theorem EnvA.go (h : EnvA base g ws sz w ab rr p wr y A n c l) (hp : PSt V base g ws sz y') (hk : Kp base g wr V) (h1 : ab ≠ g) (h2 : rr ≠ g) : EnvA base g ws sz w ab rr p V y' A n c l := by
 obtain ⟨cs, hb⟩ := h.st.bk
 exact ⟨hp, hk.bk h.a (by decide) h1, hk.bk h.r (by decide) h2, hk.own h.own hb (by decide) (by decide), h.kp.trans hk⟩
theorem EnvA.alloc (h : EnvA base g ws sz w ab rr p wr y A n c l) (o : Obj) : EnvA base g ws sz w ab rr p (wr.alloc o) y A n c l := by
 have hb : Below wr.heap.size wr (wr.alloc o) := (Below.refl _ _).alloc (Nat.le_refl _) _
 exact ⟨h.st.later hb, h.a.later hb, h.r.later hb, ownBelow h.own hb (Nat.le_refl _), h.kp.alloc h.st.text _⟩
end

end Go.Proofs.YtoigpbajefkpoaaGreatDoor

set_option linter.unusedVariables false
set_option linter.unusedSimpArgs false
namespace Go.Proofs.YtoigpbajefkpoaaGreatDoor
open Go Go.RowKit

/-- What lies in memory while a thing of parts is read: the parser, the thing, and what is answered. -/
structure EnvL (T : TypeId) (zs : List Value) (base g : Nat) (ws : List Wd) (sz : Nat) (w : World) (ab rr : Nat) (wr : World) (y : Except PE PS) (cs : List Value) : Prop where
 st : PSt wr base g ws sz y
 a : Bk wr ab T cs
 r : Bk wr rr T zs
 kp : Kp base g w wr
section
variable {T : TypeId} {zs cs : List Value} {base g sz ab rr : Nat} {ws : List Wd} {w wr V : World} {y y' : Except PE PS}
theorem EnvL.go (h : EnvL T zs base g ws sz w ab rr wr y cs) (hp : PSt V base g ws sz y') (hk : Kp base g wr V) (h1 : ab ≠ g) (h2 : rr ≠ g) (hT : T ≠ 9) : EnvL T zs base g ws sz w ab rr V y' cs :=
 ⟨hp, hk.bk h.a hT h1, hk.bk h.r hT h2, h.kp.trans hk⟩
theorem EnvL.alloc (h : EnvL T zs base g ws sz w ab rr wr y cs) (o : Obj) : EnvL T zs base g ws sz w ab rr (wr.alloc o) y cs := by
 have hb : Below wr.heap.size wr (wr.alloc o) := (Below.refl _ _).alloc (Nat.le_refl _) _
 exact ⟨h.st.later hb, h.a.later hb, h.r.later hb, h.kp.alloc h.st.text _⟩
/-- Behind stores into the thing. -/
theorem EnvL.put (h : EnvL T zs base g ws sz w ab rr wr y cs) {cs' : List Value} (ht : Only ab wr V) (hb : Bk V ab T cs') (h1 : T ≠ PT) (h2 : T ≠ 9) (h3 : T ≠ 127) (har : rr ≠ ab) (hw : w.heap.size ≤ ab) (hbs : base ≤ ab) : EnvL T zs base g ws sz w ab rr V y cs' :=
 ⟨h.st.far h.a h1 h2 h3 ht, hb, ht.bk h.r har, h.kp.fresh ht hw hbs h.a.lt⟩
end
end Go.Proofs.YtoigpbajefkpoaaGreatDoor

set_option linter.unusedVariables false
set_option linter.unusedSimpArgs false
namespace Go.Proofs.YtoigpbajefkpoaaGreatDoor
open Go Go.RowKit

/-- An own row of conditions, each with an own row of terms. -/
structure OwC (w : World) (base : Nat) (A : Option Addr) (c n : Nat) (R : List SlA) (L : List Co) : Prop where
 lenR : R.length = n
 lenL : L.length = n
 top : w.ownsRow base 103 6 (.slice A n c) n ((L.zip R).flatMap coC)
 row : ∀ (i : Nat) (r : SlA) (x : Co), R[i]? = some r → L[i]? = some x → OwT w base r.1 r.2.2 r.2.1 x.2.2.2.2
section
variable {w w' : World} {base : Nat} {A : Option Addr} {c n : Nat} {R : List SlA} {L : List Co}
theorem OwC.nil (w : World) (base : Nat) : OwC w base none 0 0 [] [] := ⟨rfl, rfl, World.ownsRow_nil _ _ _ _, fun i r x h => by simp at h⟩
theorem OwC.map (h : OwC w base A c n R L) (f : ∀ e s v n xs, (e = 103 ∨ e = 46) → w.ownsRow base e s v n xs → w'.ownsRow base e s v n xs) : OwC w' base A c n R L :=
 ⟨h.lenR, h.lenL, f _ _ _ _ _ (Or.inl rfl) h.top, fun i r x h1 h2 => f _ _ _ _ _ (Or.inr rfl) (h.row i r x h1 h2)⟩
theorem OwC.rd (h : OwC w base A c n R L) : RdK w w.heap.size A n R L := ⟨h.lenR, h.lenL, Rd.ofOwn h.top, fun i r x h1 h2 => OwT.rd (h.row i r x h1 h2)⟩
theorem OwC.later (h : OwC w base A c n R L) (hb : Below w.heap.size w w') : OwC w' base A c n R L := h.map fun e s v n xs _ ho => ownBelow ho hb (Nat.le_refl _)
theorem OwC.kp {b0 g : Nat} {cs : List Value} (h : OwC w base A c n R L) (hk : Kp b0 g w w') (hb : Bk w g PT cs) : OwC w' base A c n R L :=
 h.map fun e s v n xs he ho => hk.own ho hb (by rcases he with rfl | rfl <;> decide) (by rcases he with rfl | rfl <;> decide)
theorem OwC.only {r : Nat} {T : TypeId} {cs : List Value} (h : OwC w base A c n R L) (hb : Bk w r T cs) (h1 : T ≠ 103) (h2 : T ≠ 46) (ht : Only r w w') : OwC w' base A c n R L :=
 h.map fun e s v n xs he ho => own_only ho hb (by rcases he with rfl | rfl <;> assumption) ht
theorem OwC.snoc (h : OwC w base A c n R L) {r : SlA} {x : Co} (hr : OwT w base r.1 r.2.2 r.2.1 x.2.2.2.2) {A' : Option Addr} {c' : Nat}
  (ho : w'.ownsRow base 103 6 (.slice A' (n + 1) c') (n + 1) ((L.zip R).flatMap coC ++ coC (x, r))) (ht : Typ 103 w w') : OwC w' base A' c' (n + 1) (R ++ [r]) (L ++ [x]) := by
 refine ⟨by simp [h.lenR], by simp [h.lenL], ?_, ?_⟩
 ·
  rw [List.zip_append (by rw [h.lenL, h.lenR]), List.flatMap_append]
  simpa using ho
 ·
  intro i r' x' e1 e2
  by_cases hi : i < n
  ·
   rw [List.getElem?_append_left (by rw [h.lenR]; exact hi)] at e1
   rw [List.getElem?_append_left (by rw [h.lenL]; exact hi)] at e2
   exact ht.own (h.row i r' x' e1 e2) (by decide)
  ·
   have hil : i = n := by
    have := (List.getElem?_eq_some_iff.1 e1).1
    simp only [List.length_append, List.length_cons, List.length_nil, h.lenR] at this
    omega
   subst hil
   rw [List.getElem?_append_right (by rw [h.lenR]; omega), h.lenR, Nat.sub_self] at e1
   rw [List.getElem?_append_right (by rw [h.lenL]; omega), h.lenL, Nat.sub_self] at e2
   simp only [List.getElem?_cons_zero, Option.some.injEq] at e1 e2
   subst e1 e2
   exact ht.own hr (by decide)
theorem OwC.cap (h : OwC w base A c n R L) : n ≤ c := by
 obtain ⟨A1, c1, hv, hl⟩ := ownForm h.top
 cases hv
 exact hl
end
theorem kondInfo : (Tryz.prog.info? 103).map (fun i => (i.zero, i.size, i.bytes)) = some (some (.agg #[.bool false, .bool false, .bool false, .int .u32 0, .int .u32 0, .slice none 0 0]), 6, 56) := by kernel_rfl
theorem coC_one1 (z : Co × SlA) : ∀ u ∈ coC z, u.oneCell' = true := by
 intro u hu
 simp only [coC, List.mem_cons, List.not_mem_nil, or_false] at hu
 rcases hu with rfl | rfl | rfl | rfl | rfl | rfl <;> rfl
theorem appC {ops : Array Oper} {rest : List Oper} {o : Oper} {a : Act} {Q : Exit → Act → World → Prop} (w : World) (hgd : o.guard = none) (p x : Operand)
  (ho : o.op = .call { callee := .builtin .append, args := #[p, x], argTypes := #[52, 52] })
  (base : Nat) (A0 : Option Addr) (c0 n : Nat) (R : List SlA) (L : List Co) (hv : a.eval p = .slice A0 n c0) (hown : OwC w base A0 c0 n R L)
  (B : Nat) (A : Option Addr) (c : Nat) (y : Co) (r : SlA) (hx : a.eval x = .slice A 1 c) (hr : Rd w B 6 A 1 (coC (y, r))) (hb : n + 1 ≤ 1000000000) (hbase : base ≤ w.heap.size)
  (hrow : OwT w base r.1 r.2.2 r.2.1 y.2.2.2.2)
  (h : ∀ A' c' w', OwC w' base A' c' (n + 1) (R ++ [r]) (L ++ [y]) → w.grownBy w' (Value.slice A0 n c0).ownBlock → wpList Tryz.prog ops Q rest (a.put o.dst (.slice A' (n + 1) c')) w') : wpList Tryz.prog ops Q (o :: rest) a w := by
 obtain ⟨i0, hi, hz0, hz1, hz2⟩ := info_parts kondInfo
 refine wpList_app w hgd p x 52 ho base 103 i0 _ 6 56 Tryz.underlying52 hi hz0 hz1 hz2 rfl (by decide) _ n _ hv hown.top B A 1 c _ hx hr (coC_one1 (y, r)) (by simp only [maxLen]; omega) (by omega) hbase ?_
 intro A' c' w' e1 e2 e3
 exact h A' c' w' (hown.snoc (r := r) (x := y) hrow e1 (Typ.ofGrown hown.top e2)) e2
theorem run_litC (g s : Bool) (x : Tm) (q : UInt32) (A : Option Addr) (n c : Nat) (w : World) : (Instr.buildSlice 52 1 #[(0, .agg #[.bool g, .bool s, .bool x.1, nv x.2, nv q, .slice A n c])]).run Tryz.prog w = .ok (.slice (some ⟨w.heap.size, 0, none⟩) 1 1) (w.alloc (.cells #[.bool g, .bool s, .bool x.1, nv x.2, nv q, .slice A n c] 103)) := by
 obtain ⟨i0, hi, hz0, hz1, hz2⟩ := info_parts kondInfo
 simp [Instr.buildSlice, run_underlying Tryz.underlying52, sizeOf, typeInfo, zeroValue, hi, hz0, hz1, newRow, Instr.fill]
 kernel_rfl
theorem bk_rd6 {w : World} {g : Nat} {t : TypeId} {cs : List Value} (hb : Bk w g t cs) (hs : cs.length = 1 * 6) : Rd w w.heap.size 6 (some ⟨g, 0, none⟩) 1 cs :=
 ⟨hs, fun _ => ⟨g, 0, rfl, hb.lt, fun j u hu => by rw [Nat.zero_add, hb.cell]; exact hu⟩⟩
/-- What lies in memory while a rule is read. -/
structure EnvR (base g : Nat) (ws : List Wd) (sz : Nat) (w : World) (ab rr : Nat) (sd : Bool) (tm : Tm) (p : UInt32) (A : Option Addr) (n c : Nat) (l : List Tm) (wr : World) (y : Except PE PS) (A1 : Option Addr) (n1 c1 : Nat) (R : List SlA) (M : List Co) : Prop where
 env : EnvL 54 [.bool false, .bool false, .int .u32 0, .int .u32 0, .slice none 0 0, .slice none 0 0] base g ws sz w ab rr wr y [.bool sd, .bool tm.1, nv tm.2, nv p, .slice A n c, .slice A1 n1 c1]
 args : OwT wr w.heap.size A c n l
 body : OwC wr w.heap.size A1 c1 n1 R M
section
variable {base g sz ab rr : Nat} {ws : List Wd} {w wr V : World} {sd : Bool} {tm : Tm} {p : UInt32} {A A1 : Option Addr} {n c n1 c1 : Nat} {l : List Tm} {R : List SlA} {M : List Co} {y y' : Except PE PS}
theorem EnvR.go (h : EnvR base g ws sz w ab rr sd tm p A n c l wr y A1 n1 c1 R M) (hp : PSt V base g ws sz y') (hk : Kp base g wr V) (h1 : ab ≠ g) (h2 : rr ≠ g) : EnvR base g ws sz w ab rr sd tm p A n c l V y' A1 n1 c1 R M := by
 obtain ⟨cs, hb⟩ := h.env.st.bk
 exact ⟨h.env.go hp hk h1 h2 (by decide), hk.own h.args hb (by decide) (by decide), h.body.kp hk hb⟩
theorem EnvR.alloc (h : EnvR base g ws sz w ab rr sd tm p A n c l wr y A1 n1 c1 R M) (o : Obj) : EnvR base g ws sz w ab rr sd tm p A n c l (wr.alloc o) y A1 n1 c1 R M := by
 have hb : Below wr.heap.size wr (wr.alloc o) := (Below.refl _ _).alloc (Nat.le_refl _) _
 exact ⟨h.env.alloc o, ownBelow h.args hb (Nat.le_refl _), h.body.later hb⟩
end

end Go.Proofs.YtoigpbajefkpoaaGreatDoor

set_option linter.unusedVariables false
set_option linter.unusedSimpArgs false
namespace Go.Proofs.YtoigpbajefkpoaaGreatDoor
open Go Go.RowKit

/-- How a rule lies in memory: its terms, its conditions, and their terms. -/
abbrev RlA := SlA × SlA × List SlA
def ruC (z : Rl × RlA) : List Value := [.bool z.1.1.1, .bool z.1.1.2.1.1, nv z.1.1.2.1.2, nv z.1.1.2.2.1, z.2.1.val, z.2.2.1.val]
theorem ruC_one (z : Rl × RlA) : ∀ u ∈ ruC z, u.oneCell' = true := by
 intro u hu
 simp only [ruC, List.mem_cons, List.not_mem_nil, or_false] at hu
 rcases hu with rfl | rfl | rfl | rfl | rfl | rfl <;> rfl
/-- An own row of rules. -/
structure OwRs (w : World) (base : Nat) (A : Option Addr) (c n : Nat) (Q : List RlA) (L : List Rl) : Prop where
 lenQ : Q.length = n
 lenL : L.length = n
 top : w.ownsRow base 54 6 (.slice A n c) n ((L.zip Q).flatMap ruC)
 row : ∀ (i : Nat) (q : RlA) (x : Rl), Q[i]? = some q → L[i]? = some x → OwT w base q.1.1 q.1.2.2 q.1.2.1 x.1.2.2.2 ∧ OwC w base q.2.1.1 q.2.1.2.2 q.2.1.2.1 q.2.2 x.2
/-- A row of rules that is read. -/
structure RdRs (w : World) (B : Nat) (A : Option Addr) (n : Nat) (Q : List RlA) (L : List Rl) : Prop where
 lenQ : Q.length = n
 lenL : L.length = n
 top : Rd w B 6 A n ((L.zip Q).flatMap ruC)
 row : ∀ (i : Nat) (q : RlA) (x : Rl), Q[i]? = some q → L[i]? = some x → RdT w B q.1.1 q.1.2.1 x.1.2.2.2 ∧ RdK w B q.2.1.1 q.2.1.2.1 q.2.2 x.2
section
variable {w w' : World} {base B : Nat} {A : Option Addr} {c n : Nat} {Q : List RlA} {L : List Rl}
theorem OwRs.nil (w : World) (base : Nat) : OwRs w base none 0 0 [] [] := ⟨rfl, rfl, World.ownsRow_nil _ _ _ _, fun i r x h => by simp at h⟩
theorem OwRs.map (h : OwRs w base A c n Q L) (f : ∀ e s v n xs, (e = 54 ∨ e = 103 ∨ e = 46) → w.ownsRow base e s v n xs → w'.ownsRow base e s v n xs) : OwRs w' base A c n Q L :=
 ⟨h.lenQ, h.lenL, f _ _ _ _ _ (Or.inl rfl) h.top, fun i q x h1 h2 => ⟨f _ _ _ _ _ (Or.inr (Or.inr rfl)) (h.row i q x h1 h2).1, (h.row i q x h1 h2).2.map fun e s v n xs he ho => f e s v n xs (Or.inr he) ho⟩⟩
theorem OwRs.rd (h : OwRs w base A c n Q L) : RdRs w w.heap.size A n Q L := ⟨h.lenQ, h.lenL, Rd.ofOwn h.top, fun i q x h1 h2 => ⟨OwT.rd (h.row i q x h1 h2).1, (h.row i q x h1 h2).2.rd⟩⟩
theorem OwRs.later (h : OwRs w base A c n Q L) (hb : Below w.heap.size w w') : OwRs w' base A c n Q L := h.map fun e s v n xs _ ho => ownBelow ho hb (Nat.le_refl _)
theorem OwRs.kp {b0 g : Nat} {cs : List Value} (h : OwRs w base A c n Q L) (hk : Kp b0 g w w') (hb : Bk w g PT cs) : OwRs w' base A c n Q L :=
 h.map fun e s v n xs he ho => hk.own ho hb (by rcases he with rfl | rfl | rfl <;> decide) (by rcases he with rfl | rfl | rfl <;> decide)
theorem OwRs.cap (h : OwRs w base A c n Q L) : n ≤ c := by
 obtain ⟨A1, c1, hv, hl⟩ := ownForm h.top
 cases hv
 exact hl
theorem RdRs.below (h : RdRs w B A n Q L) (hb : Below B w w') : RdRs w' B A n Q L := ⟨h.lenQ, h.lenL, h.top.below hb, fun i q x h1 h2 => ⟨(h.row i q x h1 h2).1.below hb, (h.row i q x h1 h2).2.below hb⟩⟩
theorem RdRs.more {B' : Nat} (h : RdRs w B A n Q L) (hB : B ≤ B') : RdRs w B' A n Q L := ⟨h.lenQ, h.lenL, h.top.more hB, fun i q x h1 h2 => ⟨(h.row i q x h1 h2).1.more hB, (h.row i q x h1 h2).2.more hB⟩⟩
theorem OwRs.snoc (h : OwRs w base A c n Q L) {q : RlA} {x : Rl} (h1 : OwT w base q.1.1 q.1.2.2 q.1.2.1 x.1.2.2.2) (h2 : OwC w base q.2.1.1 q.2.1.2.2 q.2.1.2.1 q.2.2 x.2) {A' : Option Addr} {c' : Nat}
  (ho : w'.ownsRow base 54 6 (.slice A' (n + 1) c') (n + 1) ((L.zip Q).flatMap ruC ++ ruC (x, q))) (ht : Typ 54 w w') : OwRs w' base A' c' (n + 1) (Q ++ [q]) (L ++ [x]) := by
 have key : ∀ (q : RlA) (x : Rl), OwT w base q.1.1 q.1.2.2 q.1.2.1 x.1.2.2.2 → OwC w base q.2.1.1 q.2.1.2.2 q.2.1.2.1 q.2.2 x.2 → OwT w' base q.1.1 q.1.2.2 q.1.2.1 x.1.2.2.2 ∧ OwC w' base q.2.1.1 q.2.1.2.2 q.2.1.2.1 q.2.2 x.2 := fun q x a1 a2 =>
  ⟨ht.own a1 (by decide), a2.map fun e s v n xs he ho => ht.own ho (by rcases he with rfl | rfl <;> decide)⟩
 refine ⟨by simp [h.lenQ], by simp [h.lenL], ?_, ?_⟩
 ·
  rw [List.zip_append (by rw [h.lenL, h.lenQ]), List.flatMap_append]
  simpa using ho
 ·
  intro i q' x' e1 e2
  by_cases hi : i < n
  ·
   rw [List.getElem?_append_left (by rw [h.lenQ]; exact hi)] at e1
   rw [List.getElem?_append_left (by rw [h.lenL]; exact hi)] at e2
   exact key _ _ (h.row i q' x' e1 e2).1 (h.row i q' x' e1 e2).2
  ·
   have hil : i = n := by
    have := (List.getElem?_eq_some_iff.1 e1).1
    simp only [List.length_append, List.length_cons, List.length_nil, h.lenQ] at this
    omega
   subst hil
   rw [List.getElem?_append_right (by rw [h.lenQ]; omega), h.lenQ, Nat.sub_self] at e1
   rw [List.getElem?_append_right (by rw [h.lenL]; omega), h.lenL, Nat.sub_self] at e2
   simp only [List.getElem?_cons_zero, Option.some.injEq] at e1 e2
   subst e1 e2
   exact key _ _ h1 h2
end
theorem rlInfo : (Tryz.prog.info? 54).map (fun i => (i.zero, i.size, i.bytes)) = some (some (.agg #[.bool false, .bool false, .int .u32 0, .int .u32 0, .slice none 0 0, .slice none 0 0]), 6, 72) := by kernel_rfl
/-- 'l = append(l, r)', over rules. -/
theorem appRl {ops : Array Oper} {rest : List Oper} {o : Oper} {a : Act} {Q' : Exit → Act → World → Prop} (w : World) (hgd : o.guard = none) (p x : Operand)
  (ho : o.op = .call { callee := .builtin .append, args := #[p, x], argTypes := #[27, 27] })
  (base : Nat) (A0 : Option Addr) (c0 n : Nat) (Q : List RlA) (L : List Rl) (hv : a.eval p = .slice A0 n c0) (hown : OwRs w base A0 c0 n Q L)
  (B : Nat) (A : Option Addr) (c : Nat) (y : Rl) (q : RlA) (hx : a.eval x = .slice A 1 c) (hr : Rd w B 6 A 1 (ruC (y, q))) (hb : n + 1 ≤ 1000000000) (hbase : base ≤ w.heap.size)
  (h1 : OwT w base q.1.1 q.1.2.2 q.1.2.1 y.1.2.2.2) (h2 : OwC w base q.2.1.1 q.2.1.2.2 q.2.1.2.1 q.2.2 y.2)
  (h : ∀ A' c' w', OwRs w' base A' c' (n + 1) (Q ++ [q]) (L ++ [y]) → w.grownBy w' (Value.slice A0 n c0).ownBlock → wpList Tryz.prog ops Q' rest (a.put o.dst (.slice A' (n + 1) c')) w') : wpList Tryz.prog ops Q' (o :: rest) a w := by
 obtain ⟨i0, hi, hz0, hz1, hz2⟩ := info_parts rlInfo
 refine wpList_app w hgd p x 27 ho base 54 i0 _ 6 72 Tryz.underlying27 hi hz0 hz1 hz2 rfl (by decide) _ n _ hv hown.top B A 1 c _ hx hr (ruC_one (y, q)) (by simp only [maxLen]; omega) (by omega) hbase ?_
 intro A' c' w' e1 e2 e3
 exact h A' c' w' (hown.snoc h1 h2 e1 (Typ.ofGrown hown.top e2)) e2
theorem run_litR (b1 b2 : Bool) (x y : UInt32) (A : Option Addr) (n c : Nat) (A1 : Option Addr) (n1 c1 : Nat) (w : World) : (Instr.buildSlice 27 1 #[(0, .agg #[.bool b1, .bool b2, nv x, nv y, .slice A n c, .slice A1 n1 c1])]).run Tryz.prog w = .ok (.slice (some ⟨w.heap.size, 0, none⟩) 1 1) (w.alloc (.cells #[.bool b1, .bool b2, nv x, nv y, .slice A n c, .slice A1 n1 c1] 54)) := by
 obtain ⟨i0, hi, hz0, hz1, hz2⟩ := info_parts rlInfo
 simp [Instr.buildSlice, run_underlying Tryz.underlying27, sizeOf, typeInfo, zeroValue, hi, hz0, hz1, newRow, Instr.fill]
 kernel_rfl
theorem OwC.lower {w : World} {b b' : Nat} {A : Option Addr} {c n : Nat} {R : List SlA} {L : List Co} (h : OwC w b A c n R L) (hb : b' ≤ b) : OwC w b' A c n R L :=
 ⟨h.lenR, h.lenL, ownBase h.top hb, fun i r x h1 h2 => ownBase (h.row i r x h1 h2) hb⟩
theorem lexG_count : ∀ (n a : Nat) (l : List UInt8), l.length ≤ n → (lexG a l).1.length ≤ l.length
 | 0, a, l, h => by
  have : l = [] := List.eq_nil_of_length_eq_zero (by omega)
  subst this
  rw [lexG_end rfl]
  simp
 | n + 1, a, l, h => by
  by_cases h1 : l.drop (blN false l) = []
  ·
   rw [lexG_end h1]; simp
  ·
   obtain ⟨k, j, hw⟩ : ∃ k j, wordN (l.drop (blN false l)) = (k, j) := ⟨_, _, rfl⟩
   by_cases hj : j = 0
   ·
    rw [lexG_bad rfl h1 (by rw [hw]; exact hj)]; simp
   ·
    rw [lexG_word rfl hw hj]
    have hle := wordN_le (l.drop (blN false l))
    rw [hw] at hle
    have ih := lexG_count n (a + blN false l + j) ((l.drop (blN false l)).drop j) (by
     rw [List.length_drop, List.length_drop]
     rw [List.length_drop] at hle
     dsimp only at hle
     omega)
    rw [List.length_drop, List.length_drop] at ih
    rw [List.length_drop] at hle
    dsimp only at hle
    simp only [List.length_cons]
    omega
theorem words_count {l : List UInt8} {ws : List Wd} {y z : Nat} (h : (ws, y, z) = wordsL l) : ws.length ≤ 65536 := by
 unfold wordsL at h
 by_cases hb : 65536 < l.length
 ·
  rw [if_pos hb] at h
  simp only [Prod.mk.injEq] at h
  rw [h.1]; simp
 ·
  rw [if_neg hb] at h
  have hc := lexG_count l.length 0 l (Nat.le_refl _)
  rcases hx : lexG 0 l with ⟨w1, o1⟩
  rw [hx] at h hc
  cases o1 with
  | none =>
   simp only [Prod.mk.injEq] at h
   rw [h.1]
   dsimp only at hc
   omega
  | some k =>
   simp only [Prod.mk.injEq] at h
   rw [h.1]; simp
theorem rules_len {sz : Nat} {s : PS} {r : Rl} {s' : PS} (h : ruleE sz s = .ok (r, s')) : s'.1.length < s.1.length := by
 obtain ⟨l, N, V⟩ := s
 obtain ⟨l', N', V'⟩ := s'
 obtain ⟨⟨w, u, rfl⟩, _⟩ := took_rule _ _ _ _ _ _ _ _ h
 simp
 omega
theorem rules_end {sz m : Nat} {acc : List Rl} {s : PS} (h : s.1 = []) : rulesE sz m acc s = .ok (acc, s) := by
 cases m with
 | zero => rfl
 | succ m => rw [rulesE, if_pos h]
theorem rules_go {sz m : Nat} {acc : List Rl} {s : PS} (h : s.1 ≠ []) : rulesE sz (m + 1) acc s = bindE (ruleE sz s) fun r s1 => rulesE sz m (acc ++ [r]) s1 := by rw [rulesE, if_neg h]
theorem PSt.ahead {base g sz : Nat} {ws : List Wd} {w : World} {x : Except PE PS} (h : PSt w base g ws sz x) :
  ∃ (AW : Option Addr) (nW cW k : Nat) (AN : Option Addr) (nN cN : Nat) (e0 a0 : Nat) (names : List ByteArray), w.cell? ⟨g, 0, none⟩ = some (.slice AW nW cW) ∧ w.cell? ⟨g, 1, none⟩ = some (.int .i64 (k : Int)) ∧ w.cell? ⟨g, 3, none⟩ = some (.slice AN nN cN) ∧ w.cell? ⟨g, 5, none⟩ = some (.int .i64 (e0 : Int)) ∧ w.cell? ⟨g, 6, none⟩ = some (.int .i64 (a0 : Int)) ∧
   OwS w base AN cN nN names ∧ (∀ s, x = .ok s → e0 = 0 ∧ s.2.1 = names ∧ (k < nW ↔ s.1 ≠ [])) ∧ (∀ z, x = .error z → e0 = z.1 ∧ a0 = z.2 ∧ e0 ≠ 0) := by
 obtain ⟨AW, nW, cW, k, AN, nN, cN, AV, nV, cV, e0, a0, names, vars, hg, hb, hw, hn, hv, hne, hk, hW, hN, hV, hst⟩ := h
 refine ⟨AW, nW, cW, k, AN, nN, cN, e0, a0, names, hb.cell 0, hb.cell 1, hb.cell 3, hb.cell 5, hb.cell 6, hn, ?_, ?_⟩
 ·
  rintro s rfl
  obtain ⟨h1, rfl⟩ := hst
  refine ⟨h1, rfl, ?_⟩
  have hl := rdV_len (OwV.rd hw)
  constructor
  ·
   intro h h2
   have := congrArg List.length h2
   rw [List.length_drop, hl] at this
   simp at this
   omega
  ·
   intro h
   by_cases h2 : k < nW
   ·
    exact h2
   ·
    exact absurd (List.drop_of_length_le (by omega)) h
 ·
  rintro z rfl
  exact hst

end Go.Proofs.YtoigpbajefkpoaaGreatDoor

set_option linter.unusedVariables false
set_option linter.unusedSimpArgs false
namespace Go.Proofs.YtoigpbajefkpoaaGreatDoor
open Go Go.RowKit

set_option maxRecDepth 100000 in
set_option maxHeartbeats 1000000 in
theorem stand_any (x : UInt8) (w : World) :
  Calls Tryz.prog 68 #[.int .u8 (x.toNat : Int)] w fun e w' => e = .returned (.bool (okB x)) ∧ w = w' := by
 have hx256 := u8_lt x
 rcases (by omega : (0 ≤ x.toNat ∧ x.toNat ≤ 47) ∨ (48 ≤ x.toNat ∧ x.toNat ≤ 57) ∨ (58 ≤ x.toNat ∧ x.toNat ≤ 64) ∨ (65 ≤ x.toNat ∧ x.toNat ≤ 90) ∨ (91 ≤ x.toNat ∧ x.toNat ≤ 94) ∨ (95 ≤ x.toNat ∧ x.toNat ≤ 95) ∨ (96 ≤ x.toNat ∧ x.toNat ≤ 96) ∨ (97 ≤ x.toNat ∧ x.toNat ≤ 122) ∨ (123 ≤ x.toNat ∧ x.toNat ≤ 255)) with hc | hc | hc | hc | hc | hc | hc | hc | hc
 ·
  have d1 : decide ((97 : Int) ≤ (x.toNat : Int)) = false := by simp; omega
  have d2 : decide ((x.toNat : Int) ≤ 122) = true := by simp; omega
  have d3 : decide ((65 : Int) ≤ (x.toNat : Int)) = false := by simp; omega
  have d4 : decide ((x.toNat : Int) ≤ 90) = true := by simp; omega
  have d5 : decide ((48 : Int) ≤ (x.toNat : Int)) = false := by simp; omega
  have d6 : decide ((x.toNat : Int) ≤ 57) = true := by simp; omega
  have d7 : ((x.toNat : Int) == 95) = false := by simp; omega
  have ho : okB x = false := by unfold okB; simp; omega
  have HO := Lib.hid ho
  clear ho hc
  go_enter Tryz.func68, Tryz.ntmps68
  go_wp2
  go_ret
  exact ⟨by rw [HO.out]; rfl, rfl⟩
 ·
  have d1 : decide ((97 : Int) ≤ (x.toNat : Int)) = false := by simp; omega
  have d2 : decide ((x.toNat : Int) ≤ 122) = true := by simp; omega
  have d3 : decide ((65 : Int) ≤ (x.toNat : Int)) = false := by simp; omega
  have d4 : decide ((x.toNat : Int) ≤ 90) = true := by simp; omega
  have d5 : decide ((48 : Int) ≤ (x.toNat : Int)) = true := by simp; omega
  have d6 : decide ((x.toNat : Int) ≤ 57) = true := by simp; omega
  have d7 : ((x.toNat : Int) == 95) = false := by simp; omega
  have ho : okB x = true := by unfold okB; simp; omega
  have HO := Lib.hid ho
  clear ho hc
  go_enter Tryz.func68, Tryz.ntmps68
  go_wp2
  go_ret
  exact ⟨by rw [HO.out]; rfl, rfl⟩
 ·
  have d1 : decide ((97 : Int) ≤ (x.toNat : Int)) = false := by simp; omega
  have d2 : decide ((x.toNat : Int) ≤ 122) = true := by simp; omega
  have d3 : decide ((65 : Int) ≤ (x.toNat : Int)) = false := by simp; omega
  have d4 : decide ((x.toNat : Int) ≤ 90) = true := by simp; omega
  have d5 : decide ((48 : Int) ≤ (x.toNat : Int)) = true := by simp; omega
  have d6 : decide ((x.toNat : Int) ≤ 57) = false := by simp; omega
  have d7 : ((x.toNat : Int) == 95) = false := by simp; omega
  have ho : okB x = false := by unfold okB; simp; omega
  have HO := Lib.hid ho
  clear ho hc
  go_enter Tryz.func68, Tryz.ntmps68
  go_wp2
  go_ret
  exact ⟨by rw [HO.out]; rfl, rfl⟩
 ·
  have d1 : decide ((97 : Int) ≤ (x.toNat : Int)) = false := by simp; omega
  have d2 : decide ((x.toNat : Int) ≤ 122) = true := by simp; omega
  have d3 : decide ((65 : Int) ≤ (x.toNat : Int)) = true := by simp; omega
  have d4 : decide ((x.toNat : Int) ≤ 90) = true := by simp; omega
  have d5 : decide ((48 : Int) ≤ (x.toNat : Int)) = true := by simp; omega
  have d6 : decide ((x.toNat : Int) ≤ 57) = false := by simp; omega
  have d7 : ((x.toNat : Int) == 95) = false := by simp; omega
  have ho : okB x = true := by unfold okB; simp; omega
  have HO := Lib.hid ho
  clear ho hc
  go_enter Tryz.func68, Tryz.ntmps68
  go_wp2
  go_ret
  exact ⟨by rw [HO.out]; rfl, rfl⟩
 ·
  have d1 : decide ((97 : Int) ≤ (x.toNat : Int)) = false := by simp; omega
  have d2 : decide ((x.toNat : Int) ≤ 122) = true := by simp; omega
  have d3 : decide ((65 : Int) ≤ (x.toNat : Int)) = true := by simp; omega
  have d4 : decide ((x.toNat : Int) ≤ 90) = false := by simp; omega
  have d5 : decide ((48 : Int) ≤ (x.toNat : Int)) = true := by simp; omega
  have d6 : decide ((x.toNat : Int) ≤ 57) = false := by simp; omega
  have d7 : ((x.toNat : Int) == 95) = false := by simp; omega
  have ho : okB x = false := by unfold okB; simp; omega
  have HO := Lib.hid ho
  clear ho hc
  go_enter Tryz.func68, Tryz.ntmps68
  go_wp2
  go_ret
  exact ⟨by rw [HO.out]; rfl, rfl⟩
 ·
  have d1 : decide ((97 : Int) ≤ (x.toNat : Int)) = false := by simp; omega
  have d2 : decide ((x.toNat : Int) ≤ 122) = true := by simp; omega
  have d3 : decide ((65 : Int) ≤ (x.toNat : Int)) = true := by simp; omega
  have d4 : decide ((x.toNat : Int) ≤ 90) = false := by simp; omega
  have d5 : decide ((48 : Int) ≤ (x.toNat : Int)) = true := by simp; omega
  have d6 : decide ((x.toNat : Int) ≤ 57) = false := by simp; omega
  have d7 : ((x.toNat : Int) == 95) = true := by simp; omega
  have ho : okB x = true := by unfold okB; simp; omega
  have HO := Lib.hid ho
  clear ho hc
  go_enter Tryz.func68, Tryz.ntmps68
  go_wp2
  go_ret
  exact ⟨by rw [HO.out]; rfl, rfl⟩
 ·
  have d1 : decide ((97 : Int) ≤ (x.toNat : Int)) = false := by simp; omega
  have d2 : decide ((x.toNat : Int) ≤ 122) = true := by simp; omega
  have d3 : decide ((65 : Int) ≤ (x.toNat : Int)) = true := by simp; omega
  have d4 : decide ((x.toNat : Int) ≤ 90) = false := by simp; omega
  have d5 : decide ((48 : Int) ≤ (x.toNat : Int)) = true := by simp; omega
  have d6 : decide ((x.toNat : Int) ≤ 57) = false := by simp; omega
  have d7 : ((x.toNat : Int) == 95) = false := by simp; omega
  have ho : okB x = false := by unfold okB; simp; omega
  have HO := Lib.hid ho
  clear ho hc
  go_enter Tryz.func68, Tryz.ntmps68
  go_wp2
  go_ret
  exact ⟨by rw [HO.out]; rfl, rfl⟩
 ·
  have d1 : decide ((97 : Int) ≤ (x.toNat : Int)) = true := by simp; omega
  have d2 : decide ((x.toNat : Int) ≤ 122) = true := by simp; omega
  have d3 : decide ((65 : Int) ≤ (x.toNat : Int)) = true := by simp; omega
  have d4 : decide ((x.toNat : Int) ≤ 90) = false := by simp; omega
  have d5 : decide ((48 : Int) ≤ (x.toNat : Int)) = true := by simp; omega
  have d6 : decide ((x.toNat : Int) ≤ 57) = false := by simp; omega
  have d7 : ((x.toNat : Int) == 95) = false := by simp; omega
  have ho : okB x = true := by unfold okB; simp; omega
  have HO := Lib.hid ho
  clear ho hc
  go_enter Tryz.func68, Tryz.ntmps68
  go_wp2
  go_ret
  exact ⟨by rw [HO.out]; rfl, rfl⟩
 ·
  have d1 : decide ((97 : Int) ≤ (x.toNat : Int)) = true := by simp; omega
  have d2 : decide ((x.toNat : Int) ≤ 122) = false := by simp; omega
  have d3 : decide ((65 : Int) ≤ (x.toNat : Int)) = true := by simp; omega
  have d4 : decide ((x.toNat : Int) ≤ 90) = false := by simp; omega
  have d5 : decide ((48 : Int) ≤ (x.toNat : Int)) = true := by simp; omega
  have d6 : decide ((x.toNat : Int) ≤ 57) = false := by simp; omega
  have d7 : ((x.toNat : Int) == 95) = false := by simp; omega
  have ho : okB x = false := by unfold okB; simp; omega
  have HO := Lib.hid ho
  clear ho hc
  go_enter Tryz.func68, Tryz.ntmps68
  go_wp2
  go_ret
  exact ⟨by rw [HO.out]; rfl, rfl⟩

set_option maxRecDepth 100000 in
set_option maxHeartbeats 1000000 in
theorem may_any (s : ByteArray) (w : World) (hs : s.size ≤ 1099511627776) :
  Calls Tryz.prog 43 #[sv s] w fun e w' => e = .returned (.bool (mayB s)) ∧ w = w' := by
 by_cases h1 : 1 ≤ s.size
 ·
  have e1 : decide ((s.size : Int) < 1) = false := by simp; omega
  by_cases h2 : s.size ≤ 32
  ·
   have e2 : decide ((s.size : Int) > 32) = false := by simp; omega
   have e3 : decide ((32 : Int) < (s.size : Int)) = false := by simp; omega
   go_enter Tryz.func43, Tryz.ntmps43
   repeat go_step
   go_loop [14] (fun p => ∃ i : Nat, i ≤ s.size ∧ p = .int .i64 (i : Int) ∧ (s.data.toList.take i).all okB = true) (fun p => s.size - (intOf p).toNat)
   case atStart => exact ⟨0, by omega, rfl, by simp⟩
   case round =>
    obtain ⟨i, hi, rfl, hal⟩ := hrel
    by_cases hlt : i < s.size
    ·
     have hci : (i : Int) < (s.size : Int) := by omega
     obtain ⟨x, hx⟩ : ∃ x, s[i]'hlt = x := ⟨_, rfl⟩
     have hxi : s.data.toList[i]? = some x := by
      rw [← hx]
      have hl : i < s.data.toList.length := by simpa using hlt
      rw [List.getElem?_eq_getElem hl]
      simp [ByteArray.getElem_eq_getElem_data]
     have HX := Lib.hid hxi
     have HAL := Lib.hid hal
     clear hxi hal
     repeat go_step
     refine (stand_any x _).mono ?_
     rintro e w1 ⟨rfl, rfl⟩
     dsimp only
     cases ho : okB x with
     | false =>
      have HO := Lib.hid ho
      clear ho
      go_wp2
      go_ret
      exact ⟨by unfold mayB; rw [all_not _ _ _ HX.out HO.out]; rfl, rfl⟩
     | true =>
      have HO := Lib.hid ho
      clear ho
      go_wp2
      go_round
      case rel => exact ⟨i + 1, by omega, by go_num, by rw [all_take _ _ _ HX.out, HAL.out, HO.out]; rfl⟩
      case measure => simp [intOf]; omega
    ·
     obtain rfl : i = s.size := by omega
     have ha : s.data.toList.all okB = true := by rwa [List.take_of_length_le (by simp)] at hal
     have HA := Lib.hid ha
     clear hal ha hlt
     go_wp2
     go_ret
     exact ⟨by unfold mayB; rw [HA.out, decide_eq_true h1, decide_eq_true h2]; rfl, rfl⟩
  ·
   have e2 : decide ((s.size : Int) > 32) = true := by simp; omega
   have e3 : decide ((32 : Int) < (s.size : Int)) = true := by simp; omega
   have hm : mayB s = false := by unfold mayB; rw [decide_eq_false h2]; simp
   have HM := Lib.hid hm
   clear hm
   go_enter Tryz.func43, Tryz.ntmps43
   go_wp2
   go_ret
   exact ⟨by rw [HM.out]; rfl, rfl⟩
 ·
  have e1 : decide ((s.size : Int) < 1) = true := by simp; omega
  have hm : mayB s = false := by unfold mayB; rw [decide_eq_false h1]; simp
  have HM := Lib.hid hm
  clear hm
  go_enter Tryz.func43, Tryz.ntmps43
  go_wp2
  go_ret
  exact ⟨by rw [HM.out]; rfl, rfl⟩
end Go.Proofs.YtoigpbajefkpoaaGreatDoor

