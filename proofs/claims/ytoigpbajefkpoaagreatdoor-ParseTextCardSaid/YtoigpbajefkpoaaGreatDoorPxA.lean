/- Texts, packed: Aid Blk SyM LxM LxN LxA LxB -/
import Derived.WalkKit
import Derived.ProofKit
import Derived.OpenShut
import Derived.Carry
import Derived.SizedLaws
import Derived.Maps.AppendAt
import Derived.Deep.AppendLies
import Derived.Deep.Draws
import Derived.Laws.BytesArg
import Derived.Lib.Hide
import Derived.Below
import Derived.Test.YtoigpbajefkpoaaGreatDoorChecked
import Derived.Maps.StringElems
import Derived.RegionTactic
import Derived.Deep.QuietTactic
import Derived.BigQuiet
import Derived.Laws.DeepStrings4
set_option linter.unusedVariables false
namespace Go.Proofs.YtoigpbajefkpoaaGreatDoor
open Go Go.RowKit Go.ChangeShapes Go.WideShapes

/-! ### Addresses -/
theorem addPlain (b o j : Nat) : (⟨b, o, none⟩ : Addr).add j = ⟨b, o + j, none⟩ := by unfold Addr.add; split <;> simp_all

/-! ### A slice that is read: n elements of s cells each; they lie below block B -/
def Rd (w : World) (B s : Nat) (A : Option Addr) (n : Nat) (xs : List Value) : Prop :=
 xs.length = n * s ∧ (0 < n → ∃ b o, A = some ⟨b, o, none⟩ ∧ b < B ∧ ∀ j u, xs[j]? = some u → w.cell? ⟨b, o + j, none⟩ = some u)

section
variable {w w' : World} {B B' s n : Nat} {A : Option Addr} {xs : List Value}
theorem Rd.len1 (h : Rd w B 1 A n xs) : xs.length = n := by have := h.1; omega
theorem Rd.nil : Rd w B s A 0 [] := ⟨by simp, fun h => absurd h (by omega)⟩
theorem Rd.keep (h : Rd w B s A n xs) (hk : ∀ p : Addr, p.block < B → w'.cell? p = w.cell? p) : Rd w' B s A n xs :=
 ⟨h.1, fun hn => by
  obtain ⟨b, o, e, hb, hc⟩ := h.2 hn
  exact ⟨b, o, e, hb, fun j u hu => (hk ⟨b, o + j, none⟩ hb).trans (hc j u hu)⟩⟩
theorem Rd.more (h : Rd w B s A n xs) (hB : B ≤ B') : Rd w B' s A n xs :=
 ⟨h.1, fun hn => by
  obtain ⟨b, o, e, hb, hc⟩ := h.2 hn
  exact ⟨b, o, e, by omega, hc⟩⟩
theorem Rd.below (h : Rd w B s A n xs) (hb : Below B w w') : Rd w' B s A n xs := h.keep fun _ hp => hb.cell hp
theorem Rd.alloc (h : Rd w B s A n xs) (hB : B ≤ w.heap.size) (o : Obj) : Rd (w.alloc o) B s A n xs := h.below ((Below.refl B w).alloc hB o)
theorem Rd.at1 (h : Rd w B 1 A n xs) {k : Nat} (hk : k < n) : ∃ b o u, A = some ⟨b, o, none⟩ ∧ b < B ∧ xs[k]? = some u ∧ w.cell? ⟨b, o + k, none⟩ = some u := by
 obtain ⟨b, o, e, hb, hc⟩ := h.2 (by omega)
 have hl : k < xs.length := by have := h.1; omega
 exact ⟨b, o, xs[k], e, hb, List.getElem?_eq_getElem hl, hc k _ (List.getElem?_eq_getElem hl)⟩
/-- 'x[k:m]', k ≤ m ≤ n ≤ cap. -/
theorem Rd.cut (h : Rd w B s A n xs) {k m cap : Nat} (hk : k ≤ m) (hm : m ≤ n) (hc : n ≤ cap) :
  Rd w B s (if cap = k then A else A.map (·.add (k * s))) (m - k) ((xs.drop (k * s)).take ((m - k) * s)) := by
 have hms : k * s + (m - k) * s ≤ n * s := by
  rw [← Nat.add_mul]; exact Nat.mul_le_mul_right _ (by omega)
 refine ⟨by rw [List.length_take, List.length_drop, h.1]; omega, fun hn => ?_⟩
 obtain ⟨b, o, rfl, hb, hcell⟩ := h.2 (by omega)
 rw [if_neg (by omega)]
 refine ⟨b, o + k * s, by simp [addPlain], hb, fun j u hu => ?_⟩
 rw [Nat.add_assoc]
 refine hcell _ u ?_
 rw [List.getElem?_take] at hu
 split at hu
 ·
  rw [← hu, List.getElem?_drop]
 ·
  cases hu
theorem Rd.ofOwn {base : Nat} {e : TypeId} {c : Nat} (h : w.ownsRow base e s (.slice A n c) n xs) : Rd w w.heap.size s A n xs := by
 refine ⟨h.1, fun hn => ?_⟩
 obtain ⟨g, cap, hv, _, hlt⟩ := h.form hn
 have hA : A = some ⟨g, 0, none⟩ := by injection hv
 subst hA
 refine ⟨g, 0, rfl, hlt, fun j u hu => ?_⟩
 have := h.cells (g := g) rfl j u hu
 rwa [addPlain] at this
end

/-! ### A row of the call's own -/
theorem ownForm {w : World} {base : Nat} {e : TypeId} {s : Nat} {v : Value} {n : Nat} {xs : List Value} (h : w.ownsRow base e s v n xs) : ∃ A c, v = .slice A n c ∧ n ≤ c := by
 rcases h.2 with ⟨rfl, rfl⟩ | ⟨g, cap, cur, rfl, _, _, hnc, _⟩
 ·
  exact ⟨none, 0, rfl, Nat.le_refl _⟩
 ·
  exact ⟨_, cap, rfl, hnc⟩
theorem ownBase {w : World} {base base' : Nat} {e : TypeId} {s : Nat} {v : Value} {n : Nat} {xs : List Value} (h : w.ownsRow base e s v n xs) (hb : base' ≤ base) : w.ownsRow base' e s v n xs := by
 refine ⟨h.1, ?_⟩
 rcases h.2 with h2 | ⟨g, cap, cur, hv, hg, r⟩
 ·
  exact .inl h2
 ·
  exact .inr ⟨g, cap, cur, hv, by omega, r⟩
/-- What is owned in a block below B stays owned while only blocks from B on turn. -/
theorem ownBelow {w w' : World} {base B : Nat} {e : TypeId} {s : Nat} {v : Value} {n : Nat} {xs : List Value} (h : w.ownsRow base e s v n xs) (hb : Below B w w') (hB : w.heap.size ≤ B) : w'.ownsRow base e s v n xs := by
 refine ⟨h.1, ?_⟩
 rcases h.2 with h2 | ⟨g, cap, cur, hv, hg, hh, r⟩
 ·
  exact .inl h2
 ·
  have hlt : g < w.heap.size := (Array.getElem?_eq_some_iff.1 hh).1
  exact .inr ⟨g, cap, cur, hv, hg, (hb.block g (by omega)).trans hh, r⟩

section
variable {P : Program} (w : World)
theorem run_append_of_none (base : Nat) (t ty e : TypeId) (i : TypeInfo) (s : Nat) (ht : P.underlying t = some (.slice e)) (hi : P.info? e = some i)
  (v : Value) (n : Nat) (xs : List Value) (hown : w.ownsRow base e s v n xs) (c : Nat) : (Builtin.append_ #[t, t] ty #[v, .slice none 0 c]).run P w = .ok v w := by
 rcases hown.2 with ⟨rfl, rfl⟩ | ⟨g, cap, cur, rfl, _, _, hnc, _⟩
 ·
  simp [Builtin.append_, run_underlying ht, sizeOf, typeInfo, hi, Builtin.lenOf, Builtin.firstCells]
 ·
  simp [Builtin.append_, run_underlying ht, sizeOf, typeInfo, hi, Builtin.lenOf, Builtin.firstCells, hnc, storeCells]

/-- 'out = append(out, x...)', out nil or the call's own, x whatever. -/
theorem run_app (base : Nat) (t ty e : TypeId) (i : TypeInfo) (z : Value) (s bytes : Nat) (ht : P.underlying t = some (.slice e)) (hi : P.info? e = some i) (hz : i.zero = some z)
  (hs : i.size = s) (hby : i.bytes = bytes) (hzs : z.cells.size = s) (hpos : 0 < s)
  (v : Value) (n : Nat) (xs : List Value) (hown : w.ownsRow base e s v n xs)
  (B : Nat) (A : Option Addr) (m c : Nat) (news : List Value) (hr : Rd w B s A m news) (h1 : ∀ u ∈ news, u.oneCell' = true)
  (h63 : n + m ≤ maxLen) (hbytes : (n + m) * bytes ≤ 140737488355328) (hbase : base ≤ w.heap.size) :
  ∃ A' c' w', (Builtin.append_ #[t, t] ty #[v, .slice A m c]).run P w = .ok (.slice A' (n + m) c') w' ∧ w'.ownsRow base e s (.slice A' (n + m) c') (n + m) (xs ++ news) ∧ w.grownBy w' v.ownBlock ∧
   ((Value.slice A' (n + m) c').ownBlock = v.ownBlock ∨ (Value.slice A' (n + m) c').ownBlock = some w.heap.size) := by
 by_cases hA : A = none
 ·
  subst hA
  have hm : m = 0 := by
   rcases Nat.eq_zero_or_pos m with h0 | h0
   ·
    exact h0
   ·
    obtain ⟨b, o, h, _⟩ := hr.2 h0
    cases h
  subst hm
  have hn : news = [] := List.eq_nil_of_length_eq_zero (by simpa using hr.1)
  subst hn
  obtain ⟨A0, c0, rfl, hle⟩ := ownForm hown
  exact ⟨A0, c0, w, run_append_of_none w base t ty e i s ht hi _ n xs hown c, by simpa using hown, World.grownBy.refl w _, .inl rfl⟩
 ·
  obtain ⟨ad, rfl⟩ : ∃ ad, A = some ad := by cases A with | none => exact absurd rfl hA | some a => exact ⟨a, rfl⟩
  have hcells : ∀ j u, news[j]? = some u → w.cell? (ad.add j) = some u := by
   intro j u hu
   rcases Nat.eq_zero_or_pos m with h0 | h0
   ·
    subst h0
    have hn : news = [] := List.eq_nil_of_length_eq_zero (by simpa using hr.1)
    subst hn
    simp at hu
   ·
    obtain ⟨b, o, h, _, hc⟩ := hr.2 h0
    injection h with h
    subst h
    rw [addPlain]
    exact hc j u hu
  obtain ⟨v', w', hrun, h2, h3, _, h5⟩ := run_append_own_at (P := P) w base t ty e i z s bytes ht hi hz hs hby hzs hpos v n xs hown ad m c news hr.1 hcells h1 h63 hbytes hbase
  obtain ⟨A', c', rfl, _⟩ := ownForm h2
  exact ⟨A', c', w', hrun, h2, h3, h5⟩

theorem wp_app {o : Oper} {a : Act} {K : Act → World → Prop} {Q : Exit → Act → World → Prop} (p x : Operand) (t : TypeId)
  (ho : o.op = .call { callee := .builtin .append, args := #[p, x], argTypes := #[t, t] })
  (base : Nat) (e : TypeId) (i : TypeInfo) (z : Value) (s bytes : Nat) (ht : P.underlying t = some (.slice e)) (hi : P.info? e = some i) (hz : i.zero = some z)
  (hs : i.size = s) (hby : i.bytes = bytes) (hzs : z.cells.size = s) (hpos : 0 < s)
  (v : Value) (n : Nat) (xs : List Value) (hv : a.eval p = v) (hown : w.ownsRow base e s v n xs)
  (B : Nat) (A : Option Addr) (m c : Nat) (news : List Value) (hx : a.eval x = .slice A m c) (hr : Rd w B s A m news) (h1 : ∀ u ∈ news, u.oneCell' = true)
  (h63 : n + m ≤ maxLen) (hbytes : (n + m) * bytes ≤ 140737488355328) (hbase : base ≤ w.heap.size)
  (h : ∀ A' c' w', w'.ownsRow base e s (.slice A' (n + m) c') (n + m) (xs ++ news) → w.grownBy w' v.ownBlock →
   ((Value.slice A' (n + m) c').ownBlock = v.ownBlock ∨ (Value.slice A' (n + m) c').ownBlock = some w.heap.size) → K (a.put o.dst (.slice A' (n + m) c')) w') : o.wp P a w K Q := by
 obtain ⟨A', c', w', hrun, h2, h3, h4⟩ := run_app (P := P) w base t o.type e i z s bytes ht hi hz hs hby hzs hpos v n xs hown B A m c news hr h1 h63 hbytes hbase
 unfold Oper.wp execOp
 simp only [ho, resolve, invoke, builtin, Sem.run_bind, Sem.run_pure, Result.andThen_ok, List.map_toArray, List.map_cons, List.map_nil, hv, hx, hrun]
 exact h A' c' w' h2 h3 h4

theorem wpList_app {ops : Array Oper} {rest : List Oper} {o : Oper} {a : Act} {Q : Exit → Act → World → Prop} (hgd : o.guard = none) (p x : Operand) (t : TypeId)
  (ho : o.op = .call { callee := .builtin .append, args := #[p, x], argTypes := #[t, t] })
  (base : Nat) (e : TypeId) (i : TypeInfo) (z : Value) (s bytes : Nat) (ht : P.underlying t = some (.slice e)) (hi : P.info? e = some i) (hz : i.zero = some z)
  (hs : i.size = s) (hby : i.bytes = bytes) (hzs : z.cells.size = s) (hpos : 0 < s)
  (v : Value) (n : Nat) (xs : List Value) (hv : a.eval p = v) (hown : w.ownsRow base e s v n xs)
  (B : Nat) (A : Option Addr) (m c : Nat) (news : List Value) (hx : a.eval x = .slice A m c) (hr : Rd w B s A m news) (h1 : ∀ u ∈ news, u.oneCell' = true)
  (h63 : n + m ≤ maxLen) (hbytes : (n + m) * bytes ≤ 140737488355328) (hbase : base ≤ w.heap.size)
  (h : ∀ A' c' w', w'.ownsRow base e s (.slice A' (n + m) c') (n + m) (xs ++ news) → w.grownBy w' v.ownBlock →
   ((Value.slice A' (n + m) c').ownBlock = v.ownBlock ∨ (Value.slice A' (n + m) c').ownBlock = some w.heap.size) → wpList P ops Q rest (a.put o.dst (.slice A' (n + m) c')) w') : wpList P ops Q (o :: rest) a w :=
 wpList_plain hgd fun _ hK => wp_app w p x t ho base e i z s bytes ht hi hz hs hby hzs hpos v n xs hv hown B A m c news hx hr h1 h63 hbytes hbase fun A' c' w' h2 h3 h4 => hK _ _ (h A' c' w' h2 h3 h4)
end

/-- Behind an append onto an own row: nothing below the row's base has turned. -/
theorem belowApp {base : Nat} {w0 w w' : World} {e : TypeId} {s : Nat} {v : Value} {n : Nat} {xs : List Value} (hb : Below base w0 w) (hown : w.ownsRow base e s v n xs) (hg : w.grownBy w' v.ownBlock) (hbase : base ≤ w.heap.size) : Below base w0 w' :=
 hb.grown hg hbase fun k hk => (hown.lt k hk).1

/-! ### Bytes -/
def bv (b : UInt8) : Value := .int .u8 (b.toNat : Int)
theorem u8_lt (b : UInt8) : b.toNat < 256 := UInt8.toNat_lt b
abbrev strV (bs : List UInt8) : Value := .string ⟨bs.toArray⟩

section
variable {P : Program} (w : World)
end

/-! ### The frame of a law's proof -/
theorem trodAll_below {H : Type} {enc : TypeId × Value → H} {P : Program} (hl : laidOutB P = true) {W W' : World} (hb : Below W.heap.size W W') :
  ∀ {ts : List TypeId} {vs : List Value} {ds : List (DataW H)} {ps : List MemPlace}, ts.all (fun t => P.readableRec t && decide (t < P.types.size)) = true → DataW.TrodAll enc P W 0 (fun _ => true) true ts vs ds ps →
   (∀ x ∈ ps, x.block < W.heap.size) → ∀ sp : Nat → Bool, (∀ x ∈ ps, sp x.block = true) → DataW.TrodAll enc P W' 0 sp true ts vs ds ps
 | [], _, _, _, _, h, _, _, _ => by
  obtain ⟨rfl, rfl, rfl⟩ := trodAll_nil h
  exact trodAll_mk0
 | t :: ts, _, _, _, hts, h, hlt, sp, hsp => by
  obtain ⟨v, vs1, d, ds1, a, b, rfl, rfl, rfl, h1, h2⟩ := trodAll_cons h
  simp only [List.all_cons, Bool.and_eq_true, decide_eq_true_eq] at hts
  exact trodAll_cons_mk (WideElems.Trod_stays hl hts.1.1 hts.1.2 h1 (fun x hx => hb.same (hlt x (by simp [hx]))) (fun x hx => hsp x (by simp [hx])))
   (trodAll_below hl hb hts.2 h2 (fun x hx => hlt x (by simp [hx])) sp (fun x hx => hsp x (by simp [hx])))

/-- THE LAW's POST: the call has returned true and nothing that was there has turned. -/
theorem post_law {H : Type} {enc : TypeId × Value → H} {P : Program} {f : Func} {s : ChangeSpec} {apart fresh : Bool} {W W' : World} {args : Array Value} {ds : List (DataW H)} {before : List MemPlace} {tb : TypeId}
  (hl : laidOutB P = true) (hvars : s.vars = []) (hts : f.params.toList.all (fun t => P.readableRec t && decide (t < P.types.size)) = true)
  (hW : DataW.Whole enc P f.params.toList s.vars apart W args.toList ds [] before) (hb : Below W.heap.size W W')
  (hrt : f.resultTypes = #[tb]) (htb : P.underlying tb = some .bool)
  (hres : (s.fn H (ds ++ [])).results = [.lit (.bool true)]) (hargs : (s.fn H (ds ++ [])).args = ds) (hv : (s.fn H (ds ++ [])).vars = []) :
  s.post enc P f apart fresh false false W args (.bool true) W' := by
 have hlt : ∀ p ∈ before, p.block < W.heap.size := fun p hp => by simpa using hW.lt p hp
 have hW' := hW
 obtain ⟨p, q, hA, hV, rfl, _, _⟩ := hW
 rw [hvars] at hV
 obtain ⟨_, rfl⟩ := trodVars_none hV
 simp only [List.append_nil] at hlt hW' 
 refine ⟨ds, [], p, [], p, [], hW', ?_, ?_, ?_, hb.frame _, fun h => by cases h⟩
 ·
  rw [hres, hrt]
  exact trodAll_mk1 (shut_bool htb _)
 ·
  rw [hargs]
  exact trodAll_below hl hb hts hA hlt _ (fun x hx => by simpa using hlt x hx)
 ·
  rw [hv, hvars]
  rfl

end Go.Proofs.YtoigpbajefkpoaaGreatDoor

set_option linter.unusedVariables false
namespace Go.Proofs.YtoigpbajefkpoaaGreatDoor
open Go Go.RowKit

/-- Block g is just the cells cs of element type t, none frozen. -/
def Bk (w : World) (g : Nat) (t : TypeId) (cs : List Value) : Prop := w.heap[g]? = some (.cells cs.toArray t (0, 0))

section
variable {w w' : World} {g : Nat} {t : TypeId} {cs : List Value}
theorem Bk.lt (h : Bk w g t cs) : g < w.heap.size := (Array.getElem?_eq_some_iff.1 h).1
theorem Bk.cell (h : Bk w g t cs) (i : Nat) : w.cell? ⟨g, i, none⟩ = cs[i]? := by
 rw [cell_of_row w g i cs.toArray t (0, 0) h]
 simp
theorem Bk.frozen (h : Bk w g t cs) (i : Nat) : w.frozen? ⟨g, i, none⟩ = false := by
 unfold Bk at h
 simp [World.frozen?, h]
theorem Bk.new (w : World) (t : TypeId) (cs : List Value) : Bk (w.alloc (.cells cs.toArray t)) w.heap.size t cs := heap_alloc_new w _
theorem Bk.drew (h : Bk w g t cs) : Bk w.drew g t cs := h
theorem Bk.alloc (h : Bk w g t cs) (o : Obj) : Bk (w.alloc o) g t cs := (Below.heap_alloc w o g h.lt).trans h
theorem Bk.set_ (h : Bk w g t cs) (i : Nat) (u : Value) : Bk (w.setCell ⟨g, i, none⟩ u) g t (cs.set i u) := by
 unfold Bk at h ⊢
 simp [World.setCell, Array.getElem?_modify, h]
theorem Bk.far (h : Bk w g t cs) {p : Addr} (hp : g ≠ p.block) (u : Value) : Bk (w.setCell p u) g t cs := (Below.heap_setCell w p u g hp).trans h
theorem Bk.below {B : Nat} (h : Bk w g t cs) (hb : Below B w w') (hg : g < B) : Bk w' g t cs := (hb.block g hg).trans h
theorem Bk.later (h : Bk w g t cs) (hb : Below w.heap.size w w') : Bk w' g t cs := h.below hb h.lt
/-- The first n cells, as a slice that is read. -/
theorem Bk.rd (h : Bk w g t cs) (n : Nat) (hn : n ≤ cs.length) : Rd w w.heap.size 1 (some ⟨g, 0, none⟩) n (cs.take n) :=
 ⟨by rw [List.length_take]; omega, fun _ => ⟨g, 0, rfl, h.lt, fun j u hu => by
  rw [Nat.zero_add, h.cell]
  rw [List.getElem?_take] at hu
  split at hu
  ·
   exact hu
  ·
   cases hu⟩⟩
end

section
variable {P : Program} (w : World)
end
end Go.Proofs.YtoigpbajefkpoaaGreatDoor

set_option linter.unusedVariables false
set_option linter.unusedSimpArgs false
namespace Go.Proofs.YtoigpbajefkpoaaGreatDoor
open Go Go.RowKit

/-- A name, as a value. -/
abbrev sv (s : ByteArray) : Value := .string s
def okB (c : UInt8) : Bool := (97 ≤ c.toNat && c.toNat ≤ 122) || (65 ≤ c.toNat && c.toNat ≤ 90) || (48 ≤ c.toNat && c.toNat ≤ 57) || c.toNat == 95
def mayB (s : ByteArray) : Bool := s.data.toList.all okB && (1 ≤ s.size && s.size ≤ 32)
theorem all_take (l : List UInt8) (i : Nat) (x : UInt8) (h : l[i]? = some x) : (l.take (i + 1)).all okB = ((l.take i).all okB && okB x) := by
 rw [List.take_add_one, h]
 simp
theorem all_not (l : List UInt8) (i : Nat) (x : UInt8) (h : l[i]? = some x) (hx : okB x = false) : l.all okB = false := by
 rw [List.all_eq_false]
 exact ⟨x, List.mem_of_getElem? h, by simp [hx]⟩

set_option maxRecDepth 100000 in
set_option maxHeartbeats 1000000 in
theorem rMay_any (s : ByteArray) (w : World) (hs : s.size ≤ 1099511627776) :
  Calls Tryz.prog 83 #[sv s] w fun e w' => e = .returned (.bool (mayB s)) ∧ w = w' := by
 go_enter Tryz.func83, Tryz.ntmps83
 repeat go_step
 go_loop [3] (fun p => ∃ i : Nat, i ≤ s.size ∧ p = .int .i64 (i : Int) ∧ (s.data.toList.take i).all okB = true) (fun p => s.size - (intOf p).toNat)
 case atStart => exact ⟨0, by omega, rfl, by simp⟩
 case round =>
  obtain ⟨i, hi, rfl, hal⟩ := hrel
  by_cases hlt : i < s.size
  ·
   have hci : (i : Int) < (s.size : Int) := by omega
   obtain ⟨x, hx⟩ : ∃ x, s[i]'hlt = x := ⟨_, rfl⟩
   have hxi : s.data.toList[i]? = some x := by
    rw [← hx]
    have hl : i < s.data.toList.length := by simpa using hlt
    rw [List.getElem?_eq_getElem hl]
    simp [ByteArray.getElem_eq_getElem_data]
   have HX := Lib.hid hxi
   have HAL := Lib.hid hal
   clear hxi hal
   rcases (by omega : (x.toNat < 48) ∨ (48 ≤ x.toNat ∧ x.toNat ≤ 57) ∨ (58 ≤ x.toNat ∧ x.toNat ≤ 64) ∨ (65 ≤ x.toNat ∧ x.toNat ≤ 90) ∨ (91 ≤ x.toNat ∧ x.toNat ≤ 94) ∨ (x.toNat = 95) ∨ (x.toNat = 96) ∨ (97 ≤ x.toNat ∧ x.toNat ≤ 122) ∨ (123 ≤ x.toNat)) with hc | hc | hc | hc | hc | hc | hc | hc | hc
   ·
    have d1 : decide ((97 : Int) ≤ (x.toNat : Int)) = false := by simp; omega
    have d2 : decide ((x.toNat : Int) ≤ 122) = true := by simp; omega
    have d3 : decide ((65 : Int) ≤ (x.toNat : Int)) = false := by simp; omega
    have d4 : decide ((x.toNat : Int) ≤ 90) = true := by simp; omega
    have d5 : decide ((48 : Int) ≤ (x.toNat : Int)) = false := by simp; omega
    have d6 : decide ((x.toNat : Int) ≤ 57) = true := by simp; omega
    have d7 : ((x.toNat : Int) != 95) = true := by simp; omega
    have ho : okB x = false := by unfold okB; simp; omega
    have HO := Lib.hid ho
    clear ho hc
    go_wp2
    go_ret
    exact ⟨by unfold mayB; rw [all_not _ _ _ HX.out HO.out]; rfl, rfl⟩
   ·
    have d1 : decide ((97 : Int) ≤ (x.toNat : Int)) = false := by simp; omega
    have d2 : decide ((x.toNat : Int) ≤ 122) = true := by simp; omega
    have d3 : decide ((65 : Int) ≤ (x.toNat : Int)) = false := by simp; omega
    have d4 : decide ((x.toNat : Int) ≤ 90) = true := by simp; omega
    have d5 : decide ((48 : Int) ≤ (x.toNat : Int)) = true := by simp; omega
    have d6 : decide ((x.toNat : Int) ≤ 57) = true := by simp; omega
    have d7 : ((x.toNat : Int) != 95) = true := by simp; omega
    have ho : okB x = true := by unfold okB; simp; omega
    have HO := Lib.hid ho
    clear ho hc
    go_wp2
    go_round
    case rel => exact ⟨i + 1, by omega, by go_num, by rw [all_take _ _ _ HX.out, HAL.out, HO.out]; rfl⟩
    case measure => simp [intOf]; omega
   ·
    have d1 : decide ((97 : Int) ≤ (x.toNat : Int)) = false := by simp; omega
    have d2 : decide ((x.toNat : Int) ≤ 122) = true := by simp; omega
    have d3 : decide ((65 : Int) ≤ (x.toNat : Int)) = false := by simp; omega
    have d4 : decide ((x.toNat : Int) ≤ 90) = true := by simp; omega
    have d5 : decide ((48 : Int) ≤ (x.toNat : Int)) = true := by simp; omega
    have d6 : decide ((x.toNat : Int) ≤ 57) = false := by simp; omega
    have d7 : ((x.toNat : Int) != 95) = true := by simp; omega
    have ho : okB x = false := by unfold okB; simp; omega
    have HO := Lib.hid ho
    clear ho hc
    go_wp2
    go_ret
    exact ⟨by unfold mayB; rw [all_not _ _ _ HX.out HO.out]; rfl, rfl⟩
   ·
    have d1 : decide ((97 : Int) ≤ (x.toNat : Int)) = false := by simp; omega
    have d2 : decide ((x.toNat : Int) ≤ 122) = true := by simp; omega
    have d3 : decide ((65 : Int) ≤ (x.toNat : Int)) = true := by simp; omega
    have d4 : decide ((x.toNat : Int) ≤ 90) = true := by simp; omega
    have d5 : decide ((48 : Int) ≤ (x.toNat : Int)) = true := by simp; omega
    have d6 : decide ((x.toNat : Int) ≤ 57) = false := by simp; omega
    have d7 : ((x.toNat : Int) != 95) = true := by simp; omega
    have ho : okB x = true := by unfold okB; simp; omega
    have HO := Lib.hid ho
    clear ho hc
    go_wp2
    go_round
    case rel => exact ⟨i + 1, by omega, by go_num, by rw [all_take _ _ _ HX.out, HAL.out, HO.out]; rfl⟩
    case measure => simp [intOf]; omega
   ·
    have d1 : decide ((97 : Int) ≤ (x.toNat : Int)) = false := by simp; omega
    have d2 : decide ((x.toNat : Int) ≤ 122) = true := by simp; omega
    have d3 : decide ((65 : Int) ≤ (x.toNat : Int)) = true := by simp; omega
    have d4 : decide ((x.toNat : Int) ≤ 90) = false := by simp; omega
    have d5 : decide ((48 : Int) ≤ (x.toNat : Int)) = true := by simp; omega
    have d6 : decide ((x.toNat : Int) ≤ 57) = false := by simp; omega
    have d7 : ((x.toNat : Int) != 95) = true := by simp; omega
    have ho : okB x = false := by unfold okB; simp; omega
    have HO := Lib.hid ho
    clear ho hc
    go_wp2
    go_ret
    exact ⟨by unfold mayB; rw [all_not _ _ _ HX.out HO.out]; rfl, rfl⟩
   ·
    have d1 : decide ((97 : Int) ≤ (x.toNat : Int)) = false := by simp; omega
    have d2 : decide ((x.toNat : Int) ≤ 122) = true := by simp; omega
    have d3 : decide ((65 : Int) ≤ (x.toNat : Int)) = true := by simp; omega
    have d4 : decide ((x.toNat : Int) ≤ 90) = false := by simp; omega
    have d5 : decide ((48 : Int) ≤ (x.toNat : Int)) = true := by simp; omega
    have d6 : decide ((x.toNat : Int) ≤ 57) = false := by simp; omega
    have d7 : ((x.toNat : Int) != 95) = false := by simp; omega
    have ho : okB x = true := by unfold okB; simp; omega
    have HO := Lib.hid ho
    clear ho hc
    go_wp2
    go_round
    case rel => exact ⟨i + 1, by omega, by go_num, by rw [all_take _ _ _ HX.out, HAL.out, HO.out]; rfl⟩
    case measure => simp [intOf]; omega
   ·
    have d1 : decide ((97 : Int) ≤ (x.toNat : Int)) = false := by simp; omega
    have d2 : decide ((x.toNat : Int) ≤ 122) = true := by simp; omega
    have d3 : decide ((65 : Int) ≤ (x.toNat : Int)) = true := by simp; omega
    have d4 : decide ((x.toNat : Int) ≤ 90) = false := by simp; omega
    have d5 : decide ((48 : Int) ≤ (x.toNat : Int)) = true := by simp; omega
    have d6 : decide ((x.toNat : Int) ≤ 57) = false := by simp; omega
    have d7 : ((x.toNat : Int) != 95) = true := by simp; omega
    have ho : okB x = false := by unfold okB; simp; omega
    have HO := Lib.hid ho
    clear ho hc
    go_wp2
    go_ret
    exact ⟨by unfold mayB; rw [all_not _ _ _ HX.out HO.out]; rfl, rfl⟩
   ·
    have d1 : decide ((97 : Int) ≤ (x.toNat : Int)) = true := by simp; omega
    have d2 : decide ((x.toNat : Int) ≤ 122) = true := by simp; omega
    have d3 : decide ((65 : Int) ≤ (x.toNat : Int)) = true := by simp; omega
    have d4 : decide ((x.toNat : Int) ≤ 90) = false := by simp; omega
    have d5 : decide ((48 : Int) ≤ (x.toNat : Int)) = true := by simp; omega
    have d6 : decide ((x.toNat : Int) ≤ 57) = false := by simp; omega
    have d7 : ((x.toNat : Int) != 95) = true := by simp; omega
    have ho : okB x = true := by unfold okB; simp; omega
    have HO := Lib.hid ho
    clear ho hc
    go_wp2
    go_round
    case rel => exact ⟨i + 1, by omega, by go_num, by rw [all_take _ _ _ HX.out, HAL.out, HO.out]; rfl⟩
    case measure => simp [intOf]; omega
   ·
    have d1 : decide ((97 : Int) ≤ (x.toNat : Int)) = true := by simp; omega
    have d2 : decide ((x.toNat : Int) ≤ 122) = false := by simp; omega
    have d3 : decide ((65 : Int) ≤ (x.toNat : Int)) = true := by simp; omega
    have d4 : decide ((x.toNat : Int) ≤ 90) = false := by simp; omega
    have d5 : decide ((48 : Int) ≤ (x.toNat : Int)) = true := by simp; omega
    have d6 : decide ((x.toNat : Int) ≤ 57) = false := by simp; omega
    have d7 : ((x.toNat : Int) != 95) = true := by simp; omega
    have ho : okB x = false := by unfold okB; simp; omega
    have HO := Lib.hid ho
    clear ho hc
    go_wp2
    go_ret
    exact ⟨by unfold mayB; rw [all_not _ _ _ HX.out HO.out]; rfl, rfl⟩
  ·
   obtain rfl : i = s.size := by omega
   have ha : s.data.toList.all okB = true := by rwa [List.take_of_length_le (by simp)] at hal
   have HA := Lib.hid ha
   clear hal ha hlt
   by_cases h1 : 1 ≤ s.size
   ·
    have e1 : decide ((1 : Int) ≤ (s.size : Int)) = true := by simp; omega
    by_cases h2 : s.size ≤ 32
    ·
     have e2 : decide ((s.size : Int) ≤ 32) = true := by simp; omega
     go_wp2
     go_ret
     exact ⟨by unfold mayB; rw [HA.out, decide_eq_true h1, decide_eq_true h2]; rfl, rfl⟩
    ·
     have e2 : decide ((s.size : Int) ≤ 32) = false := by simp; omega
     go_wp2
     go_ret
     exact ⟨by unfold mayB; rw [HA.out, decide_eq_true h1, decide_eq_false h2]; rfl, rfl⟩
   ·
    have e1 : decide ((1 : Int) ≤ (s.size : Int)) = false := by simp; omega
    go_wp2
    go_ret
    exact ⟨by unfold mayB; rw [HA.out, decide_eq_false h1]; rfl, rfl⟩
end Go.Proofs.YtoigpbajefkpoaaGreatDoor

set_option linter.unusedVariables false
namespace Go.Proofs.YtoigpbajefkpoaaGreatDoor
open Go Go.RowKit

def isBl (c : UInt8) : Bool := c == 32 || c == 9 || c == 10 || c == 13
/-- How many blanks stand ahead; within a comment, or not. -/
def blN : Bool → List UInt8 → Nat
  | _, [] => 0
  | true, c :: l => if c = 10 then 1 + blN false l else 1 + blN true l
  | false, c :: l => if c = 37 then 1 + blN true l else if isBl c then 1 + blN false l else 0
def letN (l : List UInt8) : Nat := (l.takeWhile okB).length
def markN (l : List UInt8) : Nat × Nat :=
  match l with
  | [] => (0, 0)
  | c :: r => if c = 40 then (5, 1) else if c = 41 then (6, 1) else if c = 44 then (7, 1) else if c = 46 then (8, 1) else if c = 58 ∧ r.head? = some 45 then (9, 2) else (0, 0)
def kindL (s : List UInt8) : Nat :=
  if s = [110, 111, 116] then 3 else if s = [115, 97, 121, 115] then 4 else match s.head? with
  | some c => if 65 ≤ c.toNat ∧ c.toNat ≤ 90 then 2 else 1
  | none => 1
/-- The kind of the word that stands ahead, and how many bytes it has; none: 0. -/
def wordN (l : List UInt8) : Nat × Nat :=
  if (markN l).2 ≠ 0 then markN l else if letN l = 0 ∨ 32 < letN l then (0, 0) else (kindL (l.take (letN l)), letN l)
/-- A word: its kind, its text, its place. -/
abbrev Wd := Nat × List UInt8 × Nat
theorem blN_le : ∀ (cm : Bool) (l : List UInt8), blN cm l ≤ l.length
  | _, [] => by simp [blN]
  | true, c :: l => by
    have h1 := blN_le false l
    have h2 := blN_le true l
    rw [blN, List.length_cons]
    split <;> omega
  | false, c :: l => by
    have h1 := blN_le false l
    have h2 := blN_le true l
    rw [blN, List.length_cons]
    split
    · omega
    · split <;> omega
theorem letN_le (l : List UInt8) : letN l ≤ l.length := (List.takeWhile_prefix okB).length_le
theorem wordN_le (l : List UInt8) : (wordN l).2 ≤ l.length := by
  unfold wordN
  split
  · cases l with
    | nil => simp [markN]
    | cons c r =>
      unfold markN
      dsimp only
      rw [List.length_cons]
      repeat' split
      all_goals first
        | (dsimp only; omega)
        | (rename_i h
           cases r with
           | nil => simp at h
           | cons d r => simp)
  · split
    · exact Nat.zero_le _
    · exact letN_le l
/-- The words, up to what is wrong; its place, if something is. -/
def lexG (a : Nat) (l : List UInt8) : List Wd × Option Nat :=
  if h : l.drop (blN false l) = [] then ([], none) else
  if hn : (wordN (l.drop (blN false l))).2 = 0 then ([], some (a + blN false l)) else
  let r := lexG (a + blN false l + (wordN (l.drop (blN false l))).2) ((l.drop (blN false l)).drop (wordN (l.drop (blN false l))).2)
  (((wordN (l.drop (blN false l))).1, (l.drop (blN false l)).take (wordN (l.drop (blN false l))).2, a + blN false l) :: r.1, r.2)
termination_by l.length
decreasing_by
  have h1 := wordN_le (l.drop (blN false l))
  rw [List.length_drop] at h1 ⊢
  rw [List.length_drop]
  omega
theorem lexG_end {a : Nat} {l : List UInt8} (h : l.drop (blN false l) = []) : lexG a l = ([], none) := by
  rw [lexG, dif_pos h]
theorem lexG_bad {a : Nat} {l l1 : List UInt8} (h : l.drop (blN false l) = l1) (h1 : l1 ≠ []) (hn : (wordN l1).2 = 0) : lexG a l = ([], some (a + blN false l)) := by
  subst h
  rw [lexG, dif_neg h1, dif_pos hn]
theorem lexG_word {a : Nat} {l l1 : List UInt8} {k n : Nat} (h : l.drop (blN false l) = l1) (hn : wordN l1 = (k, n)) (h0 : n ≠ 0) :
    lexG a l = ((k, l1.take n, a + blN false l) :: (lexG (a + blN false l + n) (l1.drop n)).1, (lexG (a + blN false l + n) (l1.drop n)).2) := by
  have h1 : l1 ≠ [] := by
    rintro rfl
    have := wordN_le []
    rw [hn] at this
    exact h0 (by simpa using this)
  subst h
  rw [lexG, dif_neg h1, dif_neg (by rw [hn]; exact h0)]
  simp only [hn]
/-- The whole answer. -/
def wordsL (l : List UInt8) : List Wd × Nat × Nat :=
  if 65536 < l.length then ([], 0, 6) else match lexG 0 l with
  | (ws, none) => (ws, 0, 0)
  | (_, some k) => ([], k, 5)
/-! ### blanks -/
/-- What ends as it began. -/
def shutBl (s : List UInt8) : Prop := ∀ l, blN false (s ++ l) = s.length + blN false l
/-! ### a word, and what stands behind it -/
end Go.Proofs.YtoigpbajefkpoaaGreatDoor

set_option linter.unusedVariables false
set_option linter.unusedSimpArgs false
namespace Go.Proofs.YtoigpbajefkpoaaGreatDoor
open Go Go.RowKit

/-! ### blanks put in -/
theorem shutBl.app {s t : List UInt8} (hs : shutBl s) (ht : shutBl t) : shutBl (s ++ t) := fun l => by
 rw [List.append_assoc, hs, ht, List.length_append]; omega
/-! ### each word stands where it says -/
/-- The words stand in the text, one behind the other. -/
def Stand (bs : List UInt8) : Nat → List Wd → Prop
 | _, [] => True
 | last, w :: ws => w.2.1 ≠ [] ∧ last ≤ w.2.2 ∧ w.2.2 + w.2.1.length ≤ bs.length ∧ (bs.drop w.2.2).take w.2.1.length = w.2.1 ∧ Stand bs (w.2.2 + w.2.1.length) ws
theorem Stand.more {bs : List UInt8} {a b : Nat} {ws : List Wd} (h : Stand bs a ws) (hb : b ≤ a) : Stand bs b ws := by
 cases ws with
 | nil => trivial
 | cons w ws => exact ⟨h.1, Nat.le_trans hb h.2.1, h.2.2⟩
/-! ### words wiped out -/
/-! ### words joined -/
theorem blN_next : ∀ (cm : Bool) (l : List UInt8), l.drop (blN cm l) ≠ [] → blN false (l.drop (blN cm l)) = 0
 | true, [] => by simp [blN]
 | false, [] => by simp [blN]
 | true, c :: l => by
  have h1 := blN_next false l
  have h2 := blN_next true l
  intro h
  rw [blN] at h ⊢
  by_cases hc : c = 10
  ·
   rw [if_pos hc, Nat.add_comm 1, List.drop_succ_cons] at h ⊢
   exact h1 h
  ·
   rw [if_neg hc, Nat.add_comm 1, List.drop_succ_cons] at h ⊢
   exact h2 h
 | false, c :: l => by
  have h1 := blN_next false l
  have h2 := blN_next true l
  intro h
  rw [blN] at h ⊢
  by_cases hc : c = 37
  ·
   rw [if_pos hc, Nat.add_comm 1, List.drop_succ_cons] at h ⊢
   exact h2 h
  ·
   rw [if_neg hc] at h ⊢
   cases hb : isBl c with
   | false => simp [blN, hc, hb]
   | true =>
    rw [hb] at h
    simp only [if_true] at h ⊢
    rw [Nat.add_comm 1, List.drop_succ_cons] at h ⊢
    exact h1 h
theorem blN_zero {l : List UInt8} (h : blN false l = 0) (hl : l ≠ []) : ∃ c r, l = c :: r ∧ ∀ x, blN false (c :: x) = 0 := by
 cases l with
 | nil => exact absurd rfl hl
 | cons c r =>
  refine ⟨c, r, rfl, fun x => ?_⟩
  rw [blN] at h ⊢
  by_cases hc : c = 37
  ·
   rw [if_pos hc] at h; omega
  ·
   rw [if_neg hc] at h ⊢
   cases hb : isBl c with
   | false => simp
   | true => rw [hb] at h; simp at h
theorem markN_ok {c : UInt8} (hc : okB c = true) (r : List UInt8) : markN (c :: r) = (0, 0) := by
 unfold markN
 dsimp only
 rw [if_neg (by rintro rfl; simp [okB] at hc), if_neg (by rintro rfl; simp [okB] at hc), if_neg (by rintro rfl; simp [okB] at hc), if_neg (by rintro rfl; simp [okB] at hc), if_neg (by rintro ⟨rfl, _⟩; simp [okB] at hc)]
theorem takeWhile_take {p : UInt8 → Bool} : ∀ l : List UInt8, (l.take (l.takeWhile p).length).takeWhile p = l.take (l.takeWhile p).length
 | [] => by simp
 | c :: l => by
  rw [List.takeWhile_cons]
  cases hp : p c with
  | false => simp
  | true =>
   simp only [if_true, List.length_cons, List.take_succ_cons, List.takeWhile_cons, hp]
   rw [takeWhile_take l]
/-- A word alone is that word. -/
theorem wordN_self {l : List UInt8} {k n : Nat} (h : wordN l = (k, n)) (h0 : n ≠ 0) : wordN (l.take n) = (k, n) := by
 unfold wordN at h
 split at h
 ·
  rename_i hm
  cases l with
  | nil => simp [markN] at hm
  | cons c r =>
   have hk : markN ((c :: r).take n) = (k, n) := by
    have h' := h
    unfold markN at h'
    dsimp only at h'
    repeat' split at h'
    all_goals simp only [Prod.mk.injEq] at h'
    ·
     obtain ⟨rfl, rfl⟩ := h'; rename_i e; subst e; rfl
    ·
     obtain ⟨rfl, rfl⟩ := h'; rename_i e; subst e; rfl
    ·
     obtain ⟨rfl, rfl⟩ := h'; rename_i e; subst e; rfl
    ·
     obtain ⟨rfl, rfl⟩ := h'; rename_i e; subst e; rfl
    ·
     obtain ⟨rfl, rfl⟩ := h'
     rename_i e
     obtain ⟨rfl, e⟩ := e
     cases r with
     | nil => simp at e
     | cons d r =>
      simp only [List.head?_cons, Option.some.injEq] at e
      subst e
      rfl
    ·
     omega
   unfold wordN
   rw [hk, if_pos h0]
 ·
  split at h
  ·
   simp only [Prod.mk.injEq] at h
   omega
  ·
   rename_i hm hn
   simp only [Prod.mk.injEq] at h
   obtain ⟨hk, hl⟩ := h
   subst hl
   have hlet : letN (l.take (letN l)) = letN l := by
    unfold letN
    rw [takeWhile_take, List.length_take]
    have := letN_le l
    unfold letN at this
    omega
   have hmk : markN (l.take (letN l)) = (0, 0) := by
    cases l with
    | nil => simp [letN] at h0
    | cons c r =>
     have hc : okB c = true := by
      cases hc : okB c with
      | true => rfl
      | false => unfold letN at h0; rw [List.takeWhile_cons, hc] at h0; simp at h0
     have h1 : ∃ m, letN (c :: r) = m + 1 := ⟨letN (c :: r) - 1, by omega⟩
     obtain ⟨m, hm⟩ := h1
     rw [hm, List.take_succ_cons]
     exact markN_ok hc _
   unfold wordN
   rw [hmk, if_neg (by simp), hlet, if_neg hn, List.take_take, Nat.min_self, hk]
/-- A list of words, each as it stands alone. -/
def Alone (ws : List Wd) : Prop := ∀ w ∈ ws, wordN w.2.1 = (w.1, w.2.1.length) ∧ w.2.1 ≠ [] ∧ ∀ x, blN false (w.2.1 ++ x) = 0
theorem lexG_alone (a : Nat) (l : List UInt8) : Alone (lexG a l).1 := by
 by_cases h : l.drop (blN false l) = []
 ·
  rw [lexG_end h]; intro w hw; cases hw
 ·
  obtain ⟨k, n, hw⟩ : ∃ k n, wordN (l.drop (blN false l)) = (k, n) := ⟨_, _, rfl⟩
  have hwl := wordN_le (l.drop (blN false l))
  rw [hw] at hwl
  dsimp only at hwl
  by_cases h0 : n = 0
  ·
   subst h0
   rw [lexG_bad rfl h (by rw [hw])]; intro w hw; cases hw
  ·
   rw [lexG_word rfl hw h0]
   have hlt : ((l.drop (blN false l)).drop n).length < l.length := by
    have hbl := blN_le false l
    rw [List.length_drop] at hwl
    simp only [List.length_drop]
    omega
   have ih := lexG_alone (a + blN false l + n) ((l.drop (blN false l)).drop n)
   have hlen : ((l.drop (blN false l)).take n).length = n := by rw [List.length_take]; omega
   intro w hmem
   rcases List.mem_cons.1 hmem with rfl | hmem
   ·
    refine ⟨by dsimp only; rw [hlen]; exact wordN_self hw h0, fun e => h0 (by rw [← hlen]; exact congrArg List.length e), fun x => ?_⟩
    dsimp only
    obtain ⟨c, r, hc, hx⟩ := blN_zero (blN_next false l h) h
    rw [hc]
    obtain ⟨m, rfl⟩ : ∃ m, n = m + 1 := ⟨n - 1, by omega⟩
    rw [List.take_succ_cons, List.cons_append]
    exact hx _
   ·
    exact ih w hmem
termination_by l.length
/-- What words are, but for their places. -/
def texts (ws : List Wd) : List (Nat × List UInt8) := ws.map fun w => (w.1, w.2.1)
end Go.Proofs.YtoigpbajefkpoaaGreatDoor

set_option linter.unusedVariables false
set_option linter.unusedSimpArgs false
namespace Go.Proofs.YtoigpbajefkpoaaGreatDoor
open Go Go.RowKit

/-- A text's bytes. -/
abbrev tb (s : ByteArray) : List UInt8 := s.data.toList
theorem tb_len (s : ByteArray) : (tb s).length = s.size := by simp [tb]
theorem tb_at {s : ByteArray} {k : Nat} (hk : k < s.size) : (tb s).drop k = s[k] :: (tb s).drop (k + 1) := by
 have h : k < (tb s).length := by rw [tb_len]; exact hk
 rw [List.drop_eq_getElem_cons h]
 simp [tb, ByteArray.getElem_eq_getElem_data]
theorem tb_extract (s : ByteArray) (a b : Nat) : tb (s.extract a b) = ((tb s).drop a).take (b - a) := by
 simp [tb, ByteArray.data_extract, List.drop_take]
/-- A part of a text. -/
theorem run_part (s : ByteArray) (a b : Nat) (i j : Int) (hi : i = (a : Int)) (hj : j = (b : Int)) (h : a ≤ b) (hb : b ≤ s.size) (w : World) :
  (Instr.slice 9 (sv s) (some (.int .i64 i)) (some (.int .i64 j)) none).run Tryz.prog w = .ok (sv (s.extract a b)) w := by
 subst hi hj
 rw [run_slice_string_if w _ _ _ _ _ _ Tryz.underlying9]
 rw [if_pos (by omega), if_pos (by omega), Int.toNat_natCast, Int.toNat_natCast]
theorem mayB_one {s : ByteArray} {k : Nat} (hk : k < s.size) : mayB (s.extract k (k + 1)) = okB s[k] := by
 have h1 := tb_extract s k (k + 1)
 rw [tb_at hk, show k + 1 - k = 1 by omega] at h1
 simp only [List.take_succ_cons, List.take_zero] at h1
 have h2 := tb_len (s.extract k (k + 1))
 rw [h1] at h2
 unfold mayB
 rw [show (s.extract k (k + 1)).data.toList = [s[k]] from h1, ← h2]
 simp

set_option maxRecDepth 100000 in
set_option maxHeartbeats 4000000 in
theorem rLetters_any (s : ByteArray) (a : Nat) (w : World) (hs : s.size ≤ 1099511627776) (ha : a ≤ s.size) :
  Calls Tryz.prog 55 #[sv s, .int .i64 (a : Int)] w fun e w' => e = .returned (.int .i64 (letN ((tb s).drop a) : Int)) ∧ w = w' := by
 go_enter Tryz.func55, Tryz.ntmps55
 repeat (first | go_skip | go_guarded | go_step)
 go_loop [5] (fun q => ∃ k : Nat, a ≤ k ∧ k ≤ s.size ∧ q = .int .i64 (k : Int) ∧ letN ((tb s).drop a) = (k - a) + letN ((tb s).drop k)) (fun q => s.size - (intOf q).toNat)
 case atStart => exact ⟨a, by omega, ha, rfl, by omega⟩
 case round =>
  obtain ⟨k, h1, h2, rfl, hl⟩ := hrel
  have HL := Lib.hid hl
  clear hl
  by_cases hlt : k < s.size
  ·
   have hci : (k : Int) < (s.size : Int) := by omega
   have HM := Lib.hid (mayB_one hlt)
   have HT := Lib.hid (tb_at hlt)
   have hsl := run_part s k (k + 1) (k : Int) ((k : Int) + 1) rfl (by omega) (by omega) (by omega) w
   repeat (first | go_skip | go_guarded | go_step)
   refine (rMay_any (s.extract k (k + 1)) w (by simp; omega)).mono ?_
   rintro e w1 ⟨rfl, rfl⟩
   rw [HM.out]
   dsimp only
   cases ho : okB s[k] with
   | true =>
    have HO := Lib.hid ho
    clear ho
    repeat (first | go_skip | go_guarded | go_step)
    go_round
    case rel => exact ⟨k + 1, by omega, by omega, by go_num, by rw [HL.out, HT.out]; unfold letN; rw [List.takeWhile_cons, HO.out]; simp; omega⟩
    case measure => simp [intOf] <;> omega
   | false =>
    have HZ := Lib.hid (show letN ((tb s).drop a) = k - a by rw [HL.out, HT.out]; unfold letN; rw [List.takeWhile_cons, ho]; simp)
    clear ho
    repeat (first | go_skip | go_guarded | go_step)
    go_ret
    exact ⟨by rw [HZ.out]; simp; omega, rfl⟩
  ·
   obtain rfl : k = s.size := by omega
   repeat (first | go_skip | go_guarded | go_step)
   have HZ := Lib.hid (show letN ((tb s).drop a) = s.size - a by rw [HL.out, List.drop_of_length_le (by rw [tb_len]; omega)]; simp [letN])
   go_ret
   exact ⟨by rw [HZ.out]; simp; omega, rfl⟩
end Go.Proofs.YtoigpbajefkpoaaGreatDoor

set_option linter.unusedVariables false
set_option linter.unusedSimpArgs false
namespace Go.Proofs.YtoigpbajefkpoaaGreatDoor
open Go Go.RowKit

theorem u8n {x : UInt8} {n : Nat} (hn : n < 256) : x.toNat = n ↔ x = UInt8.ofNat n := by
 constructor
 ·
  intro h
  apply UInt8.toNat_inj.1
  rw [h, UInt8.toNat_ofNat_of_lt' (by show n < 256; exact hn)]
 ·
  rintro rfl
  exact UInt8.toNat_ofNat_of_lt' (by show n < 256; exact hn)
theorem ieq {x n : Nat} (h : x = n) : ((x : Int) == (n : Int)) = true := by rw [h]; simp
theorem ine {x n : Nat} (h : x ≠ n) : ((x : Int) == (n : Int)) = false := by rw [beq_eq_false_iff_ne]; omega
theorem bne1 {x n : Nat} (h : x = n) : ((x : Int) != (n : Int)) = false := by rw [h]; simp
theorem bne2 {x n : Nat} (h : x ≠ n) : ((x : Int) != (n : Int)) = true := by rw [bne_iff_ne]; omega

set_option maxRecDepth 100000 in
set_option maxHeartbeats 4000000 in
theorem rBlanks_any (s : ByteArray) (a : Nat) (w : World) (hs : s.size ≤ 1099511627776) (ha : a ≤ s.size) :
  Calls Tryz.prog 53 #[sv s, .int .i64 (a : Int)] w fun e w' => e = .returned (.int .i64 (blN false ((tb s).drop a) : Int)) ∧ w = w' := by
 go_enter Tryz.func53, Tryz.ntmps53
 repeat (first | go_skip | go_guarded | go_step)
 go_loop [5] (fun q => ∃ k : Nat, a ≤ k ∧ k ≤ s.size ∧ q = .int .i64 (k : Int) ∧ blN false ((tb s).drop a) = (k - a) + blN false ((tb s).drop k)) (fun q => s.size - (intOf q).toNat)
 case atStart => exact ⟨a, by omega, ha, rfl, by omega⟩
 case round =>
  obtain ⟨k, h1, h2, rfl, hl⟩ := hrel
  have HL := Lib.hid hl
  clear hl
  by_cases hlt : k < s.size
  ·
   have hci : (k : Int) < (s.size : Int) := by omega
   obtain ⟨x, hx⟩ : ∃ x, s[k]'hlt = x := ⟨_, rfl⟩
   have ht := tb_at hlt
   rw [hx] at ht
   have HT := Lib.hid ht
   clear ht
   rcases (by omega : x.toNat = 37 ∨ x.toNat = 32 ∨ x.toNat = 9 ∨ x.toNat = 10 ∨ x.toNat = 13 ∨ (x.toNat ≠ 37 ∧ x.toNat ≠ 32 ∧ x.toNat ≠ 9 ∧ x.toNat ≠ 10 ∧ x.toNat ≠ 13)) with hc | hc | hc | hc | hc | hc
   ·
    have d37 : ((x.toNat : Int) == 37) = true := ieq (n := 37) hc
    have HX := Lib.hid ((u8n (n := 37) (by omega)).1 hc)
    have HST := Lib.hid (show blN true ((tb s).drop k) = blN false ((tb s).drop k) by
     rw [HT.out, blN, blN, if_neg (by rw [HX.out]; decide), if_pos (by rw [HX.out]; rfl)])
    clear hc
    repeat (first | go_skip | go_guarded | go_step)
    go_loop [5] (fun q => ∃ j : Nat, k ≤ j ∧ j ≤ s.size ∧ q = .int .i64 (j : Int) ∧ blN false ((tb s).drop a) = (j - a) + blN true ((tb s).drop j)) (fun q => s.size - (intOf q).toNat)
    case atStart => exact ⟨k, by omega, h2, rfl, by rw [HST.out, HL.out]⟩
    case round =>
     obtain ⟨j, g1, g2, rfl, gl⟩ := hrel
     have GL := Lib.hid gl
     clear gl
     by_cases glt : j < s.size
     ·
      have gci : (j : Int) < (s.size : Int) := by omega
      obtain ⟨y, hy⟩ : ∃ y, s[j]'glt = y := ⟨_, rfl⟩
      have gt := tb_at glt
      rw [hy] at gt
      have GT := Lib.hid gt
      clear gt
      by_cases g10 : y.toNat = 10
      ·
       have HY := Lib.hid ((u8n (n := 10) (by omega)).1 g10)
       have hjk : j ≠ k := by
        rintro rfl
        have : y = x := by rw [← hy, ← hx]
        rw [HY.out, HX.out] at this
        exact absurd this (by decide)
       have d10 : ((y.toNat : Int) != 10) = false := bne1 (n := 10) g10
       have HE := Lib.hid (show blN true ((tb s).drop j) = blN false ((tb s).drop j) by
        rw [GT.out, blN, blN, if_pos (by rw [HY.out]; rfl), if_neg (by rw [HY.out]; decide), HY.out]
        simp [isBl])
       clear g10
       repeat (first | go_skip | go_guarded | go_step)
       go_round
       case rel => exact ⟨j, by omega, by omega, rfl, by rw [GL.out, HE.out]⟩
       case measure => simp [intOf] <;> omega
      ·
       have d10 : ((y.toNat : Int) != 10) = true := bne2 (n := 10) g10
       have HE := Lib.hid (show blN true ((tb s).drop j) = 1 + blN true ((tb s).drop (j + 1)) by
        rw [GT.out, blN, if_neg (fun h : y = 10 => g10 ((u8n (n := 10) (by omega)).2 h))])
       clear g10
       repeat (first | go_skip | go_guarded | go_step)
       go_round
       case rel => exact ⟨j + 1, by omega, by omega, by go_num, by rw [GL.out, HE.out]; omega⟩
       case measure => simp [intOf] <;> omega
     ·
      obtain rfl : j = s.size := by omega
      have HE := Lib.hid (show blN false ((tb s).drop a) = (s.size - a) + blN false ((tb s).drop s.size) by
       rw [GL.out, List.drop_of_length_le (by rw [tb_len]; omega)]
       simp [blN])
      repeat (first | go_skip | go_guarded | go_step)
      go_round
      case rel => exact ⟨s.size, by omega, by omega, rfl, HE.out⟩
      case measure => simp [intOf] <;> omega
   ·
    have HX := Lib.hid ((u8n (n := 32) (by omega)).1 hc)
    have d37 : ((x.toNat : Int) == 37) = false := ine (n := 37) (by omega)
    have d32 : ((x.toNat : Int) != 32) = false := bne1 (n := 32) (by omega)
    have d9 : ((x.toNat : Int) != 9) = true := bne2 (n := 9) (by omega)
    have d10 : ((x.toNat : Int) != 10) = true := bne2 (n := 10) (by omega)
    have d13 : ((x.toNat : Int) != 13) = true := bne2 (n := 13) (by omega)
    have HB := Lib.hid (show blN false ((tb s).drop k) = 1 + blN false ((tb s).drop (k + 1)) by
     rw [HT.out, blN, if_neg (by rw [HX.out]; decide), HX.out]
     simp [isBl])
    clear hc
    repeat (first | go_skip | go_guarded | go_step)
    go_round
    case rel => exact ⟨k + 1, by omega, by omega, by go_num, by rw [HL.out, HB.out]; omega⟩
    case measure => simp [intOf] <;> omega
   ·
    have HX := Lib.hid ((u8n (n := 9) (by omega)).1 hc)
    have d37 : ((x.toNat : Int) == 37) = false := ine (n := 37) (by omega)
    have d32 : ((x.toNat : Int) != 32) = true := bne2 (n := 32) (by omega)
    have d9 : ((x.toNat : Int) != 9) = false := bne1 (n := 9) (by omega)
    have d10 : ((x.toNat : Int) != 10) = true := bne2 (n := 10) (by omega)
    have d13 : ((x.toNat : Int) != 13) = true := bne2 (n := 13) (by omega)
    have HB := Lib.hid (show blN false ((tb s).drop k) = 1 + blN false ((tb s).drop (k + 1)) by
     rw [HT.out, blN, if_neg (by rw [HX.out]; decide), HX.out]
     simp [isBl])
    clear hc
    repeat (first | go_skip | go_guarded | go_step)
    go_round
    case rel => exact ⟨k + 1, by omega, by omega, by go_num, by rw [HL.out, HB.out]; omega⟩
    case measure => simp [intOf] <;> omega
   ·
    have HX := Lib.hid ((u8n (n := 10) (by omega)).1 hc)
    have d37 : ((x.toNat : Int) == 37) = false := ine (n := 37) (by omega)
    have d32 : ((x.toNat : Int) != 32) = true := bne2 (n := 32) (by omega)
    have d9 : ((x.toNat : Int) != 9) = true := bne2 (n := 9) (by omega)
    have d10 : ((x.toNat : Int) != 10) = false := bne1 (n := 10) (by omega)
    have d13 : ((x.toNat : Int) != 13) = true := bne2 (n := 13) (by omega)
    have HB := Lib.hid (show blN false ((tb s).drop k) = 1 + blN false ((tb s).drop (k + 1)) by
     rw [HT.out, blN, if_neg (by rw [HX.out]; decide), HX.out]
     simp [isBl])
    clear hc
    repeat (first | go_skip | go_guarded | go_step)
    go_round
    case rel => exact ⟨k + 1, by omega, by omega, by go_num, by rw [HL.out, HB.out]; omega⟩
    case measure => simp [intOf] <;> omega
   ·
    have HX := Lib.hid ((u8n (n := 13) (by omega)).1 hc)
    have d37 : ((x.toNat : Int) == 37) = false := ine (n := 37) (by omega)
    have d32 : ((x.toNat : Int) != 32) = true := bne2 (n := 32) (by omega)
    have d9 : ((x.toNat : Int) != 9) = true := bne2 (n := 9) (by omega)
    have d10 : ((x.toNat : Int) != 10) = true := bne2 (n := 10) (by omega)
    have d13 : ((x.toNat : Int) != 13) = false := bne1 (n := 13) (by omega)
    have HB := Lib.hid (show blN false ((tb s).drop k) = 1 + blN false ((tb s).drop (k + 1)) by
     rw [HT.out, blN, if_neg (by rw [HX.out]; decide), HX.out]
     simp [isBl])
    clear hc
    repeat (first | go_skip | go_guarded | go_step)
    go_round
    case rel => exact ⟨k + 1, by omega, by omega, by go_num, by rw [HL.out, HB.out]; omega⟩
    case measure => simp [intOf] <;> omega
   ·
    have d37 : ((x.toNat : Int) == 37) = false := ine (n := 37) (by omega)
    have d32 : ((x.toNat : Int) != 32) = true := bne2 (n := 32) (by omega)
    have d9 : ((x.toNat : Int) != 9) = true := bne2 (n := 9) (by omega)
    have d10 : ((x.toNat : Int) != 10) = true := bne2 (n := 10) (by omega)
    have d13 : ((x.toNat : Int) != 13) = true := bne2 (n := 13) (by omega)
    have HB := Lib.hid (show blN false ((tb s).drop k) = 0 by
     rw [HT.out, blN, if_neg (fun h : x = 37 => hc.1 ((u8n (n := 37) (by omega)).2 h))]
     have : isBl x = false := by
      unfold isBl
      simp only [Bool.or_eq_false_iff, beq_eq_false_iff_ne]
      exact ⟨⟨⟨fun h : x = 32 => hc.2.1 ((u8n (n := 32) (by omega)).2 h), fun h : x = 9 => hc.2.2.1 ((u8n (n := 9) (by omega)).2 h)⟩, fun h : x = 10 => hc.2.2.2.1 ((u8n (n := 10) (by omega)).2 h)⟩, fun h : x = 13 => hc.2.2.2.2 ((u8n (n := 13) (by omega)).2 h)⟩
     rw [this]; rfl)
    clear hc
    repeat (first | go_skip | go_guarded | go_step)
    go_ret
    exact ⟨by rw [HL.out, HB.out]; simp; omega, rfl⟩
  ·
   obtain rfl : k = s.size := by omega
   have HZ := Lib.hid (show blN false ((tb s).drop a) = s.size - a by rw [HL.out, List.drop_of_length_le (by rw [tb_len]; omega)]; simp [blN])
   repeat (first | go_skip | go_guarded | go_step)
   go_ret
   exact ⟨by rw [HZ.out]; simp; omega, rfl⟩

set_option maxRecDepth 100000 in
set_option maxHeartbeats 4000000 in
theorem rMark_any (s : ByteArray) (a : Nat) (w : World) (hs : s.size ≤ 1099511627776) (ha : a < s.size) :
  Calls Tryz.prog 54 #[sv s, .int .i64 (a : Int)] w fun e w' => e = .returned (.tuple #[.int .u8 ((markN ((tb s).drop a)).1 : Int), .int .i64 ((markN ((tb s).drop a)).2 : Int)]) ∧ ∃ q, w' = w.drewN q := by
 obtain ⟨x, hx⟩ : ∃ x, s[a]'ha = x := ⟨_, rfl⟩
 have ht := tb_at ha
 rw [hx] at ht
 have HT := Lib.hid ht
 clear ht
 have hci : (a : Int) < (s.size : Int) := by omega
 have m0 : ((⟨#[40, 41, 44, 46]⟩ : ByteArray)[0]'(by decide)).toNat = 40 := by decide
 have m1 : ((⟨#[40, 41, 44, 46]⟩ : ByteArray)[1]'(by decide)).toNat = 41 := by decide
 have m2 : ((⟨#[40, 41, 44, 46]⟩ : ByteArray)[2]'(by decide)).toNat = 44 := by decide
 have m3 : ((⟨#[40, 41, 44, 46]⟩ : ByteArray)[3]'(by decide)).toNat = 46 := by decide
 go_enter Tryz.func54, Tryz.ntmps54
 repeat (first | go_skip | go_guarded | go_step)
 go_loopw [7] (fun q wr => ∃ i : Nat, i ≤ 4 ∧ q = .int .i64 (i : Int) ∧ (1 ≤ i → x.toNat ≠ 40) ∧ (2 ≤ i → x.toNat ≠ 41) ∧ (3 ≤ i → x.toNat ≠ 44) ∧ (4 ≤ i → x.toNat ≠ 46) ∧ ∃ m, wr = w.drewN m) (fun q _ => 4 - (intOf q).toNat)
 case atStart => exact ⟨0, by omega, rfl, by omega, by omega, by omega, by omega, 0, rfl⟩
 case round =>
  obtain ⟨i, hi, rfl, h1, h2, h3, h4, m, rfl⟩ := hrel
  rcases (show i = 0 ∨ i = 1 ∨ i = 2 ∨ i = 3 ∨ i = 4 by omega) with rfl | rfl | rfl | rfl | rfl
  ·
   clear h1 h2 h3 h4
   by_cases hc : x.toNat = 40
   ·
    have hd : ((x.toNat : Int) == 40) = true := ieq (n := 40) hc
    have HM := Lib.hid (show markN ((tb s).drop a) = (5, 1) by
     rw [HT.out]
     unfold markN
     dsimp only
     rw [if_pos (show x = 40 from (u8n (n := 40) (by omega)).1 hc)])
    clear hc
    repeat (first | go_skip | go_guarded | go_step)
    go_quiet (fail)
    repeat (first | go_skip | go_guarded | go_step)
    go_ret2
    exact ⟨by rw [HM.out]; rfl, _, rfl⟩
   ·
    have hd : ((x.toNat : Int) == 40) = false := ine (n := 40) hc
    have HC := Lib.hid hc
    clear hc
    repeat (first | go_skip | go_guarded | go_step)
    go_quiet (fail)
    repeat (first | go_skip | go_guarded | go_step)
    go_roundw
    case rel => exact ⟨1, by omega, by rfl, fun _ => HC.out, by omega, by omega, by omega, _, rfl⟩
    case measure => simp [intOf]
  ·
   have p0 : x.toNat ≠ 40 := h1 (by omega)
   clear h1 h2 h3 h4
   by_cases hc : x.toNat = 41
   ·
    have hd : ((x.toNat : Int) == 41) = true := ieq (n := 41) hc
    have HM := Lib.hid (show markN ((tb s).drop a) = (6, 1) by
     rw [HT.out]
     unfold markN
     dsimp only
     rw [if_neg (fun h : x = 40 => p0 ((u8n (n := 40) (by omega)).2 h))]
     rw [if_pos (show x = 41 from (u8n (n := 41) (by omega)).1 hc)])
    clear hc p0
    repeat (first | go_skip | go_guarded | go_step)
    go_quiet (fail)
    repeat (first | go_skip | go_guarded | go_step)
    go_ret2
    exact ⟨by rw [HM.out]; rfl, _, rfl⟩
   ·
    have hd : ((x.toNat : Int) == 41) = false := ine (n := 41) hc
    have HC := Lib.hid hc
    have P0 := Lib.hid p0
    clear hc p0
    repeat (first | go_skip | go_guarded | go_step)
    go_quiet (fail)
    repeat (first | go_skip | go_guarded | go_step)
    go_roundw
    case rel => exact ⟨2, by omega, by rfl, fun _ => P0.out, fun _ => HC.out, by omega, by omega, _, rfl⟩
    case measure => simp [intOf]
  ·
   have p0 : x.toNat ≠ 40 := h1 (by omega)
   have p1 : x.toNat ≠ 41 := h2 (by omega)
   clear h1 h2 h3 h4
   by_cases hc : x.toNat = 44
   ·
    have hd : ((x.toNat : Int) == 44) = true := ieq (n := 44) hc
    have HM := Lib.hid (show markN ((tb s).drop a) = (7, 1) by
     rw [HT.out]
     unfold markN
     dsimp only
     rw [if_neg (fun h : x = 40 => p0 ((u8n (n := 40) (by omega)).2 h))]
     rw [if_neg (fun h : x = 41 => p1 ((u8n (n := 41) (by omega)).2 h))]
     rw [if_pos (show x = 44 from (u8n (n := 44) (by omega)).1 hc)])
    clear hc p0 p1
    repeat (first | go_skip | go_guarded | go_step)
    go_quiet (fail)
    repeat (first | go_skip | go_guarded | go_step)
    go_ret2
    exact ⟨by rw [HM.out]; rfl, _, rfl⟩
   ·
    have hd : ((x.toNat : Int) == 44) = false := ine (n := 44) hc
    have HC := Lib.hid hc
    have P0 := Lib.hid p0
    have P1 := Lib.hid p1
    clear hc p0 p1
    repeat (first | go_skip | go_guarded | go_step)
    go_quiet (fail)
    repeat (first | go_skip | go_guarded | go_step)
    go_roundw
    case rel => exact ⟨3, by omega, by rfl, fun _ => P0.out, fun _ => P1.out, fun _ => HC.out, by omega, _, rfl⟩
    case measure => simp [intOf]
  ·
   have p0 : x.toNat ≠ 40 := h1 (by omega)
   have p1 : x.toNat ≠ 41 := h2 (by omega)
   have p2 : x.toNat ≠ 44 := h3 (by omega)
   clear h1 h2 h3 h4
   by_cases hc : x.toNat = 46
   ·
    have hd : ((x.toNat : Int) == 46) = true := ieq (n := 46) hc
    have HM := Lib.hid (show markN ((tb s).drop a) = (8, 1) by
     rw [HT.out]
     unfold markN
     dsimp only
     rw [if_neg (fun h : x = 40 => p0 ((u8n (n := 40) (by omega)).2 h))]
     rw [if_neg (fun h : x = 41 => p1 ((u8n (n := 41) (by omega)).2 h))]
     rw [if_neg (fun h : x = 44 => p2 ((u8n (n := 44) (by omega)).2 h))]
     rw [if_pos (show x = 46 from (u8n (n := 46) (by omega)).1 hc)])
    clear hc p0 p1 p2
    repeat (first | go_skip | go_guarded | go_step)
    go_quiet (fail)
    repeat (first | go_skip | go_guarded | go_step)
    go_ret2
    exact ⟨by rw [HM.out]; rfl, _, rfl⟩
   ·
    have hd : ((x.toNat : Int) == 46) = false := ine (n := 46) hc
    have HC := Lib.hid hc
    have P0 := Lib.hid p0
    have P1 := Lib.hid p1
    have P2 := Lib.hid p2
    clear hc p0 p1 p2
    repeat (first | go_skip | go_guarded | go_step)
    go_quiet (fail)
    repeat (first | go_skip | go_guarded | go_step)
    go_roundw
    case rel => exact ⟨4, by omega, by rfl, fun _ => P0.out, fun _ => P1.out, fun _ => P2.out, fun _ => HC.out, _, rfl⟩
    case measure => simp [intOf]
  ·
   have p0 : x.toNat ≠ 40 := h1 (by omega)
   have p1 : x.toNat ≠ 41 := h2 (by omega)
   have p2 : x.toNat ≠ 44 := h3 (by omega)
   have p3 : x.toNat ≠ 46 := h4 (by omega)
   have HM := Lib.hid (show markN ((tb s).drop a) = if x = 58 ∧ ((tb s).drop (a + 1)).head? = some 45 then (9, 2) else (0, 0) by
    rw [HT.out]
    unfold markN
    dsimp only
    rw [if_neg (fun h : x = 40 => p0 ((u8n (n := 40) (by omega)).2 h)), if_neg (fun h : x = 41 => p1 ((u8n (n := 41) (by omega)).2 h)), if_neg (fun h : x = 44 => p2 ((u8n (n := 44) (by omega)).2 h)), if_neg (fun h : x = 46 => p3 ((u8n (n := 46) (by omega)).2 h))])
   clear h1 h2 h3 h4 p0 p1 p2 p3
   by_cases hlt : a + 1 < s.size
   ·
    have hl2 : (a : Int) + 1 < (s.size : Int) := by omega
    have hsl : ∀ w, _ := fun w => run_part s a (a + 2) (a : Int) ((a : Int) + 2) rfl (by omega) (by omega) (by omega) w
    obtain ⟨y, hy⟩ : ∃ y, s[a + 1]'hlt = y := ⟨_, rfl⟩
    have ht2 := tb_at hlt
    rw [hy] at ht2
    have hex : (tb (s.extract a (a + 2))) = [x, y] := by
     rw [tb_extract, HT.out, ht2, show a + 2 - a = 2 by omega]
     rfl
    have he : (s.extract a (a + 2)).toList = [x, y] := by rw [ByteArray.toList_eq]; exact hex
    have HT2 := Lib.hid ht2
    clear hex ht2
    by_cases h58 : x = 58 ∧ y = 45
    ·
     have hd : ((s.extract a (a + 2)).toList == [58, 45]) = true := by rw [he, h58.1, h58.2]; rfl
     have HM2 := Lib.hid (show markN ((tb s).drop a) = (9, 2) by
      rw [HM.out, HT2.out, if_pos ⟨h58.1, by rw [h58.2]; rfl⟩])
     clear he h58
     repeat (first | go_skip | go_guarded | go_step)
     go_ret2
     exact ⟨by rw [HM2.out]; rfl, _, rfl⟩
    ·
     have hd : ((s.extract a (a + 2)).toList == [58, 45]) = false := by
      rw [he, beq_eq_false_iff_ne]
      intro e
      simp only [List.cons.injEq, and_true] at e
      exact h58 e
     have HM2 := Lib.hid (show markN ((tb s).drop a) = (0, 0) by
      rw [HM.out, HT2.out, if_neg (fun h => h58 ⟨h.1, Option.some.inj h.2⟩)])
     clear he h58
     repeat (first | go_skip | go_guarded | go_step)
     go_ret2
     exact ⟨by rw [HM2.out]; rfl, _, rfl⟩
   ·
    have hl2 : ¬ ((a : Int) + 1 < (s.size : Int)) := by omega
    have HM2 := Lib.hid (show markN ((tb s).drop a) = (0, 0) by
     rw [HM.out, List.drop_of_length_le (by rw [tb_len]; omega)]
     simp)
    repeat (first | go_skip | go_guarded | go_step)
    go_ret2
    exact ⟨by rw [HM2.out]; rfl, _, rfl⟩
end Go.Proofs.YtoigpbajefkpoaaGreatDoor

