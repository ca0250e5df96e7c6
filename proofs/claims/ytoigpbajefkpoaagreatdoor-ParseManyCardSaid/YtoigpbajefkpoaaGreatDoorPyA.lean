/- Texts, packed: Aid Blk SyM LxM LxN LxA -/
import Derived.WalkKit
import Derived.ProofKit
import Derived.OpenShut
import Derived.Carry
import Derived.SizedLaws
import Derived.Maps.AppendAt
import Derived.Deep.AppendLies
import Derived.Deep.Draws
import Derived.Laws.BytesArg
import Derived.Lib.Hide
import Derived.Below
import Derived.Test.YtoigpbajefkpoaaGreatDoorChecked
import Derived.Maps.StringElems
import Derived.RegionTactic
import Derived.Deep.QuietTactic
import Derived.BigQuiet
import Derived.Laws.DeepStrings4
set_option linter.unusedVariables false
namespace Go.Proofs.YtoigpbajefkpoaaGreatDoor
open Go Go.RowKit Go.ChangeShapes Go.WideShapes

/-! ### Addresses -/
theorem addAdd (a : Addr) (i j : Nat) : (a.add i).add j = a.add (i + j) := by
 unfold Addr.add
 by_cases hi : i = 0 <;> by_cases hj : j = 0 <;> simp [hi, hj, Nat.add_assoc]
theorem addPlain (b o j : Nat) : (⟨b, o, none⟩ : Addr).add j = ⟨b, o + j, none⟩ := by unfold Addr.add; split <;> simp_all

/-! ### A slice that is read: n elements of s cells each; they lie below block B -/
def Rd (w : World) (B s : Nat) (A : Option Addr) (n : Nat) (xs : List Value) : Prop :=
 xs.length = n * s ∧ (0 < n → ∃ b o, A = some ⟨b, o, none⟩ ∧ b < B ∧ ∀ j u, xs[j]? = some u → w.cell? ⟨b, o + j, none⟩ = some u)

section
variable {w w' : World} {B B' s n : Nat} {A : Option Addr} {xs : List Value}
theorem Rd.len1 (h : Rd w B 1 A n xs) : xs.length = n := by have := h.1; omega
theorem Rd.nil : Rd w B s A 0 [] := ⟨by simp, fun h => absurd h (by omega)⟩
theorem Rd.keep (h : Rd w B s A n xs) (hk : ∀ p : Addr, p.block < B → w'.cell? p = w.cell? p) : Rd w' B s A n xs :=
 ⟨h.1, fun hn => by
  obtain ⟨b, o, e, hb, hc⟩ := h.2 hn
  exact ⟨b, o, e, hb, fun j u hu => (hk ⟨b, o + j, none⟩ hb).trans (hc j u hu)⟩⟩
theorem Rd.more (h : Rd w B s A n xs) (hB : B ≤ B') : Rd w B' s A n xs :=
 ⟨h.1, fun hn => by
  obtain ⟨b, o, e, hb, hc⟩ := h.2 hn
  exact ⟨b, o, e, by omega, hc⟩⟩
theorem Rd.below (h : Rd w B s A n xs) (hb : Below B w w') : Rd w' B s A n xs := h.keep fun _ hp => hb.cell hp
theorem Rd.alloc (h : Rd w B s A n xs) (hB : B ≤ w.heap.size) (o : Obj) : Rd (w.alloc o) B s A n xs := h.below ((Below.refl B w).alloc hB o)
theorem Rd.at1 (h : Rd w B 1 A n xs) {k : Nat} (hk : k < n) : ∃ b o u, A = some ⟨b, o, none⟩ ∧ b < B ∧ xs[k]? = some u ∧ w.cell? ⟨b, o + k, none⟩ = some u := by
 obtain ⟨b, o, e, hb, hc⟩ := h.2 (by omega)
 have hl : k < xs.length := by have := h.1; omega
 exact ⟨b, o, xs[k], e, hb, List.getElem?_eq_getElem hl, hc k _ (List.getElem?_eq_getElem hl)⟩
/-- 'x[k:m]', k ≤ m ≤ n ≤ cap. -/
theorem Rd.cut (h : Rd w B s A n xs) {k m cap : Nat} (hk : k ≤ m) (hm : m ≤ n) (hc : n ≤ cap) :
  Rd w B s (if cap = k then A else A.map (·.add (k * s))) (m - k) ((xs.drop (k * s)).take ((m - k) * s)) := by
 have hms : k * s + (m - k) * s ≤ n * s := by
  rw [← Nat.add_mul]; exact Nat.mul_le_mul_right _ (by omega)
 refine ⟨by rw [List.length_take, List.length_drop, h.1]; omega, fun hn => ?_⟩
 obtain ⟨b, o, rfl, hb, hcell⟩ := h.2 (by omega)
 rw [if_neg (by omega)]
 refine ⟨b, o + k * s, by simp [addPlain], hb, fun j u hu => ?_⟩
 rw [Nat.add_assoc]
 refine hcell _ u ?_
 rw [List.getElem?_take] at hu
 split at hu
 ·
  rw [← hu, List.getElem?_drop]
 ·
  cases hu
theorem Rd.ofOwn {base : Nat} {e : TypeId} {c : Nat} (h : w.ownsRow base e s (.slice A n c) n xs) : Rd w w.heap.size s A n xs := by
 refine ⟨h.1, fun hn => ?_⟩
 obtain ⟨g, cap, hv, _, hlt⟩ := h.form hn
 have hA : A = some ⟨g, 0, none⟩ := by injection hv
 subst hA
 refine ⟨g, 0, rfl, hlt, fun j u hu => ?_⟩
 have := h.cells (g := g) rfl j u hu
 rwa [addPlain] at this
end

/-! ### A row of the call's own -/
theorem ownForm {w : World} {base : Nat} {e : TypeId} {s : Nat} {v : Value} {n : Nat} {xs : List Value} (h : w.ownsRow base e s v n xs) : ∃ A c, v = .slice A n c ∧ n ≤ c := by
 rcases h.2 with ⟨rfl, rfl⟩ | ⟨g, cap, cur, rfl, _, _, hnc, _⟩
 ·
  exact ⟨none, 0, rfl, Nat.le_refl _⟩
 ·
  exact ⟨_, cap, rfl, hnc⟩
theorem ownBase {w : World} {base base' : Nat} {e : TypeId} {s : Nat} {v : Value} {n : Nat} {xs : List Value} (h : w.ownsRow base e s v n xs) (hb : base' ≤ base) : w.ownsRow base' e s v n xs := by
 refine ⟨h.1, ?_⟩
 rcases h.2 with h2 | ⟨g, cap, cur, hv, hg, r⟩
 ·
  exact .inl h2
 ·
  exact .inr ⟨g, cap, cur, hv, by omega, r⟩
/-- What is owned in a block below B stays owned while only blocks from B on turn. -/
theorem ownBelow {w w' : World} {base B : Nat} {e : TypeId} {s : Nat} {v : Value} {n : Nat} {xs : List Value} (h : w.ownsRow base e s v n xs) (hb : Below B w w') (hB : w.heap.size ≤ B) : w'.ownsRow base e s v n xs := by
 refine ⟨h.1, ?_⟩
 rcases h.2 with h2 | ⟨g, cap, cur, hv, hg, hh, r⟩
 ·
  exact .inl h2
 ·
  have hlt : g < w.heap.size := (Array.getElem?_eq_some_iff.1 hh).1
  exact .inr ⟨g, cap, cur, hv, hg, (hb.block g (by omega)).trans hh, r⟩

section
variable {P : Program} (w : World)
theorem run_append_of_none (base : Nat) (t ty e : TypeId) (i : TypeInfo) (s : Nat) (ht : P.underlying t = some (.slice e)) (hi : P.info? e = some i)
  (v : Value) (n : Nat) (xs : List Value) (hown : w.ownsRow base e s v n xs) (c : Nat) : (Builtin.append_ #[t, t] ty #[v, .slice none 0 c]).run P w = .ok v w := by
 rcases hown.2 with ⟨rfl, rfl⟩ | ⟨g, cap, cur, rfl, _, _, hnc, _⟩
 ·
  simp [Builtin.append_, run_underlying ht, sizeOf, typeInfo, hi, Builtin.lenOf, Builtin.firstCells]
 ·
  simp [Builtin.append_, run_underlying ht, sizeOf, typeInfo, hi, Builtin.lenOf, Builtin.firstCells, hnc, storeCells]

/-- 'out = append(out, x...)', out nil or the call's own, x whatever. -/
theorem run_app (base : Nat) (t ty e : TypeId) (i : TypeInfo) (z : Value) (s bytes : Nat) (ht : P.underlying t = some (.slice e)) (hi : P.info? e = some i) (hz : i.zero = some z)
  (hs : i.size = s) (hby : i.bytes = bytes) (hzs : z.cells.size = s) (hpos : 0 < s)
  (v : Value) (n : Nat) (xs : List Value) (hown : w.ownsRow base e s v n xs)
  (B : Nat) (A : Option Addr) (m c : Nat) (news : List Value) (hr : Rd w B s A m news) (h1 : ∀ u ∈ news, u.oneCell' = true)
  (h63 : n + m ≤ maxLen) (hbytes : (n + m) * bytes ≤ 140737488355328) (hbase : base ≤ w.heap.size) :
  ∃ A' c' w', (Builtin.append_ #[t, t] ty #[v, .slice A m c]).run P w = .ok (.slice A' (n + m) c') w' ∧ w'.ownsRow base e s (.slice A' (n + m) c') (n + m) (xs ++ news) ∧ w.grownBy w' v.ownBlock ∧
   ((Value.slice A' (n + m) c').ownBlock = v.ownBlock ∨ (Value.slice A' (n + m) c').ownBlock = some w.heap.size) := by
 by_cases hA : A = none
 ·
  subst hA
  have hm : m = 0 := by
   rcases Nat.eq_zero_or_pos m with h0 | h0
   ·
    exact h0
   ·
    obtain ⟨b, o, h, _⟩ := hr.2 h0
    cases h
  subst hm
  have hn : news = [] := List.eq_nil_of_length_eq_zero (by simpa using hr.1)
  subst hn
  obtain ⟨A0, c0, rfl, hle⟩ := ownForm hown
  exact ⟨A0, c0, w, run_append_of_none w base t ty e i s ht hi _ n xs hown c, by simpa using hown, World.grownBy.refl w _, .inl rfl⟩
 ·
  obtain ⟨ad, rfl⟩ : ∃ ad, A = some ad := by cases A with | none => exact absurd rfl hA | some a => exact ⟨a, rfl⟩
  have hcells : ∀ j u, news[j]? = some u → w.cell? (ad.add j) = some u := by
   intro j u hu
   rcases Nat.eq_zero_or_pos m with h0 | h0
   ·
    subst h0
    have hn : news = [] := List.eq_nil_of_length_eq_zero (by simpa using hr.1)
    subst hn
    simp at hu
   ·
    obtain ⟨b, o, h, _, hc⟩ := hr.2 h0
    injection h with h
    subst h
    rw [addPlain]
    exact hc j u hu
  obtain ⟨v', w', hrun, h2, h3, _, h5⟩ := run_append_own_at (P := P) w base t ty e i z s bytes ht hi hz hs hby hzs hpos v n xs hown ad m c news hr.1 hcells h1 h63 hbytes hbase
  obtain ⟨A', c', rfl, _⟩ := ownForm h2
  exact ⟨A', c', w', hrun, h2, h3, h5⟩

theorem wp_app {o : Oper} {a : Act} {K : Act → World → Prop} {Q : Exit → Act → World → Prop} (p x : Operand) (t : TypeId)
  (ho : o.op = .call { callee := .builtin .append, args := #[p, x], argTypes := #[t, t] })
  (base : Nat) (e : TypeId) (i : TypeInfo) (z : Value) (s bytes : Nat) (ht : P.underlying t = some (.slice e)) (hi : P.info? e = some i) (hz : i.zero = some z)
  (hs : i.size = s) (hby : i.bytes = bytes) (hzs : z.cells.size = s) (hpos : 0 < s)
  (v : Value) (n : Nat) (xs : List Value) (hv : a.eval p = v) (hown : w.ownsRow base e s v n xs)
  (B : Nat) (A : Option Addr) (m c : Nat) (news : List Value) (hx : a.eval x = .slice A m c) (hr : Rd w B s A m news) (h1 : ∀ u ∈ news, u.oneCell' = true)
  (h63 : n + m ≤ maxLen) (hbytes : (n + m) * bytes ≤ 140737488355328) (hbase : base ≤ w.heap.size)
  (h : ∀ A' c' w', w'.ownsRow base e s (.slice A' (n + m) c') (n + m) (xs ++ news) → w.grownBy w' v.ownBlock →
   ((Value.slice A' (n + m) c').ownBlock = v.ownBlock ∨ (Value.slice A' (n + m) c').ownBlock = some w.heap.size) → K (a.put o.dst (.slice A' (n + m) c')) w') : o.wp P a w K Q := by
 obtain ⟨A', c', w', hrun, h2, h3, h4⟩ := run_app (P := P) w base t o.type e i z s bytes ht hi hz hs hby hzs hpos v n xs hown B A m c news hr h1 h63 hbytes hbase
 unfold Oper.wp execOp
 simp only [ho, resolve, invoke, builtin, Sem.run_bind, Sem.run_pure, Result.andThen_ok, List.map_toArray, List.map_cons, List.map_nil, hv, hx, hrun]
 exact h A' c' w' h2 h3 h4

theorem wpList_app {ops : Array Oper} {rest : List Oper} {o : Oper} {a : Act} {Q : Exit → Act → World → Prop} (hgd : o.guard = none) (p x : Operand) (t : TypeId)
  (ho : o.op = .call { callee := .builtin .append, args := #[p, x], argTypes := #[t, t] })
  (base : Nat) (e : TypeId) (i : TypeInfo) (z : Value) (s bytes : Nat) (ht : P.underlying t = some (.slice e)) (hi : P.info? e = some i) (hz : i.zero = some z)
  (hs : i.size = s) (hby : i.bytes = bytes) (hzs : z.cells.size = s) (hpos : 0 < s)
  (v : Value) (n : Nat) (xs : List Value) (hv : a.eval p = v) (hown : w.ownsRow base e s v n xs)
  (B : Nat) (A : Option Addr) (m c : Nat) (news : List Value) (hx : a.eval x = .slice A m c) (hr : Rd w B s A m news) (h1 : ∀ u ∈ news, u.oneCell' = true)
  (h63 : n + m ≤ maxLen) (hbytes : (n + m) * bytes ≤ 140737488355328) (hbase : base ≤ w.heap.size)
  (h : ∀ A' c' w', w'.ownsRow base e s (.slice A' (n + m) c') (n + m) (xs ++ news) → w.grownBy w' v.ownBlock →
   ((Value.slice A' (n + m) c').ownBlock = v.ownBlock ∨ (Value.slice A' (n + m) c').ownBlock = some w.heap.size) → wpList P ops Q rest (a.put o.dst (.slice A' (n + m) c')) w') : wpList P ops Q (o :: rest) a w :=
 wpList_plain hgd fun _ hK => wp_app w p x t ho base e i z s bytes ht hi hz hs hby hzs hpos v n xs hv hown B A m c news hx hr h1 h63 hbytes hbase fun A' c' w' h2 h3 h4 => hK _ _ (h A' c' w' h2 h3 h4)
end

/-- Behind an append onto an own row: nothing below the row's base has turned. -/
theorem belowApp {base : Nat} {w0 w w' : World} {e : TypeId} {s : Nat} {v : Value} {n : Nat} {xs : List Value} (hb : Below base w0 w) (hown : w.ownsRow base e s v n xs) (hg : w.grownBy w' v.ownBlock) (hbase : base ≤ w.heap.size) : Below base w0 w' :=
 hb.grown hg hbase fun k hk => (hown.lt k hk).1

/-! ### Bytes -/
def bv (b : UInt8) : Value := .int .u8 (b.toNat : Int)
theorem u8_lt (b : UInt8) : b.toNat < 256 := UInt8.toNat_lt b
abbrev strV (bs : List UInt8) : Value := .string ⟨bs.toArray⟩

section
variable {P : Program} (w : World)
theorem run_conv_str (src dst e : TypeId) (hs : P.underlying src = some (.slice e)) (he : P.underlying e = some (.int .u8)) (hd : P.underlying dst = some .string)
  (B : Nat) (A : Option Addr) (n c : Nat) (bs : List UInt8) (hr : Rd w B 1 A n (bs.map bv)) : (convert src dst (.slice A n c)).run P w = .ok (strV bs) w := by
 have hl : bs.length = n := by simpa using hr.len1
 rcases Nat.eq_zero_or_pos n with h0 | h0
 ·
  subst h0
  obtain rfl : bs = [] := List.eq_nil_of_length_eq_zero hl
  rw [run_convert_bytes_string w src dst e A 0 c hs he hd]
  cases A with
  | none =>
   simp [Conv.bytesToString, strV, ByteArray.empty, ByteArray.emptyWithCapacity]
   rfl
  | some a =>
   have := run_bytesToString (P := P) w a 0 c [] (by simp [loadCells, loadCellsFrom])
   rw [this]
   rfl
 ·
  obtain ⟨b, o, rfl, _, hc⟩ := hr.2 h0
  have h := run_convert_bytes_arg (P := P) w src e hs he b o n c (bs.map fun x => (x.toNat : Int)) (by simpa using hl)
   (fun i hi => by
    have := hc i (bv (bs[i]'(by omega))) (by simp [List.getElem?_eq_getElem (show i < bs.length by omega)])
    rw [this]
    simp [bv, List.getD, List.getElem?_eq_getElem (show i < bs.length by omega)]) dst hd
  rw [h]
  congr 2
  unfold strOfNums
  congr 1
  rw [List.map_map]
  have : ((fun n : Int => UInt8.ofNat n.toNat) ∘ fun x : UInt8 => (x.toNat : Int)) = id := by
   funext x
   simp
  rw [this, List.map_id]
end

/-! ### The frame of a law's proof -/
theorem trodAll_below {H : Type} {enc : TypeId × Value → H} {P : Program} (hl : laidOutB P = true) {W W' : World} (hb : Below W.heap.size W W') :
  ∀ {ts : List TypeId} {vs : List Value} {ds : List (DataW H)} {ps : List MemPlace}, ts.all (fun t => P.readableRec t && decide (t < P.types.size)) = true → DataW.TrodAll enc P W 0 (fun _ => true) true ts vs ds ps →
   (∀ x ∈ ps, x.block < W.heap.size) → ∀ sp : Nat → Bool, (∀ x ∈ ps, sp x.block = true) → DataW.TrodAll enc P W' 0 sp true ts vs ds ps
 | [], _, _, _, _, h, _, _, _ => by
  obtain ⟨rfl, rfl, rfl⟩ := trodAll_nil h
  exact trodAll_mk0
 | t :: ts, _, _, _, hts, h, hlt, sp, hsp => by
  obtain ⟨v, vs1, d, ds1, a, b, rfl, rfl, rfl, h1, h2⟩ := trodAll_cons h
  simp only [List.all_cons, Bool.and_eq_true, decide_eq_true_eq] at hts
  exact trodAll_cons_mk (WideElems.Trod_stays hl hts.1.1 hts.1.2 h1 (fun x hx => hb.same (hlt x (by simp [hx]))) (fun x hx => hsp x (by simp [hx])))
   (trodAll_below hl hb hts.2 h2 (fun x hx => hlt x (by simp [hx])) sp (fun x hx => hsp x (by simp [hx])))

/-- THE LAW's POST: the call has returned true and nothing that was there has turned. -/
theorem post_law {H : Type} {enc : TypeId × Value → H} {P : Program} {f : Func} {s : ChangeSpec} {apart fresh : Bool} {W W' : World} {args : Array Value} {ds : List (DataW H)} {before : List MemPlace} {tb : TypeId}
  (hl : laidOutB P = true) (hvars : s.vars = []) (hts : f.params.toList.all (fun t => P.readableRec t && decide (t < P.types.size)) = true)
  (hW : DataW.Whole enc P f.params.toList s.vars apart W args.toList ds [] before) (hb : Below W.heap.size W W')
  (hrt : f.resultTypes = #[tb]) (htb : P.underlying tb = some .bool)
  (hres : (s.fn H (ds ++ [])).results = [.lit (.bool true)]) (hargs : (s.fn H (ds ++ [])).args = ds) (hv : (s.fn H (ds ++ [])).vars = []) :
  s.post enc P f apart fresh false false W args (.bool true) W' := by
 have hlt : ∀ p ∈ before, p.block < W.heap.size := fun p hp => by simpa using hW.lt p hp
 have hW' := hW
 obtain ⟨p, q, hA, hV, rfl, _, _⟩ := hW
 rw [hvars] at hV
 obtain ⟨_, rfl⟩ := trodVars_none hV
 simp only [List.append_nil] at hlt hW' 
 refine ⟨ds, [], p, [], p, [], hW', ?_, ?_, ?_, hb.frame _, fun h => by cases h⟩
 ·
  rw [hres, hrt]
  exact trodAll_mk1 (shut_bool htb _)
 ·
  rw [hargs]
  exact trodAll_below hl hb hts hA hlt _ (fun x hx => by simpa using hlt x hx)
 ·
  rw [hv, hvars]
  rfl

end Go.Proofs.YtoigpbajefkpoaaGreatDoor

set_option linter.unusedVariables false
namespace Go.Proofs.YtoigpbajefkpoaaGreatDoor
open Go Go.RowKit

/-- Block g is just the cells cs of element type t, none frozen. -/
def Bk (w : World) (g : Nat) (t : TypeId) (cs : List Value) : Prop := w.heap[g]? = some (.cells cs.toArray t (0, 0))

section
variable {w w' : World} {g : Nat} {t : TypeId} {cs : List Value}
theorem Bk.lt (h : Bk w g t cs) : g < w.heap.size := (Array.getElem?_eq_some_iff.1 h).1
theorem Bk.cell (h : Bk w g t cs) (i : Nat) : w.cell? ⟨g, i, none⟩ = cs[i]? := by
 rw [cell_of_row w g i cs.toArray t (0, 0) h]
 simp
theorem Bk.frozen (h : Bk w g t cs) (i : Nat) : w.frozen? ⟨g, i, none⟩ = false := by
 unfold Bk at h
 simp [World.frozen?, h]
theorem Bk.new (w : World) (t : TypeId) (cs : List Value) : Bk (w.alloc (.cells cs.toArray t)) w.heap.size t cs := heap_alloc_new w _
theorem Bk.drew (h : Bk w g t cs) : Bk w.drew g t cs := h
theorem Bk.alloc (h : Bk w g t cs) (o : Obj) : Bk (w.alloc o) g t cs := (Below.heap_alloc w o g h.lt).trans h
theorem Bk.set_ (h : Bk w g t cs) (i : Nat) (u : Value) : Bk (w.setCell ⟨g, i, none⟩ u) g t (cs.set i u) := by
 unfold Bk at h ⊢
 simp [World.setCell, Array.getElem?_modify, h]
theorem Bk.far (h : Bk w g t cs) {p : Addr} (hp : g ≠ p.block) (u : Value) : Bk (w.setCell p u) g t cs := (Below.heap_setCell w p u g hp).trans h
theorem Bk.below {B : Nat} (h : Bk w g t cs) (hb : Below B w w') (hg : g < B) : Bk w' g t cs := (hb.block g hg).trans h
theorem Bk.later (h : Bk w g t cs) (hb : Below w.heap.size w w') : Bk w' g t cs := h.below hb h.lt
/-- The first n cells, as a slice that is read. -/
theorem Bk.rd (h : Bk w g t cs) (n : Nat) (hn : n ≤ cs.length) : Rd w w.heap.size 1 (some ⟨g, 0, none⟩) n (cs.take n) :=
 ⟨by rw [List.length_take]; omega, fun _ => ⟨g, 0, rfl, h.lt, fun j u hu => by
  rw [Nat.zero_add, h.cell]
  rw [List.getElem?_take] at hu
  split at hu
  ·
   exact hu
  ·
   cases hu⟩⟩
end

section
variable {P : Program} (w : World)
end
end Go.Proofs.YtoigpbajefkpoaaGreatDoor

set_option linter.unusedVariables false
set_option linter.unusedSimpArgs false
namespace Go.Proofs.YtoigpbajefkpoaaGreatDoor
open Go Go.RowKit

/-- A name, as a value. -/
abbrev sv (s : ByteArray) : Value := .string s
def okB (c : UInt8) : Bool := (97 ≤ c.toNat && c.toNat ≤ 122) || (65 ≤ c.toNat && c.toNat ≤ 90) || (48 ≤ c.toNat && c.toNat ≤ 57) || c.toNat == 95
def mayB (s : ByteArray) : Bool := s.data.toList.all okB && (1 ≤ s.size && s.size ≤ 32)
theorem all_take (l : List UInt8) (i : Nat) (x : UInt8) (h : l[i]? = some x) : (l.take (i + 1)).all okB = ((l.take i).all okB && okB x) := by
 rw [List.take_add_one, h]
 simp
theorem all_not (l : List UInt8) (i : Nat) (x : UInt8) (h : l[i]? = some x) (hx : okB x = false) : l.all okB = false := by
 rw [List.all_eq_false]
 exact ⟨x, List.mem_of_getElem? h, by simp [hx]⟩

set_option maxRecDepth 100000 in
set_option maxHeartbeats 1000000 in
theorem rMay_any (s : ByteArray) (w : World) (hs : s.size ≤ 1099511627776) :
  Calls Tryz.prog 83 #[sv s] w fun e w' => e = .returned (.bool (mayB s)) ∧ w = w' := by
 go_enter Tryz.func83, Tryz.ntmps83
 repeat go_step
 go_loop [3] (fun p => ∃ i : Nat, i ≤ s.size ∧ p = .int .i64 (i : Int) ∧ (s.data.toList.take i).all okB = true) (fun p => s.size - (intOf p).toNat)
 case atStart => exact ⟨0, by omega, rfl, by simp⟩
 case round =>
  obtain ⟨i, hi, rfl, hal⟩ := hrel
  by_cases hlt : i < s.size
  ·
   have hci : (i : Int) < (s.size : Int) := by omega
   obtain ⟨x, hx⟩ : ∃ x, s[i]'hlt = x := ⟨_, rfl⟩
   have hxi : s.data.toList[i]? = some x := by
    rw [← hx]
    have hl : i < s.data.toList.length := by simpa using hlt
    rw [List.getElem?_eq_getElem hl]
    simp [ByteArray.getElem_eq_getElem_data]
   have HX := Lib.hid hxi
   have HAL := Lib.hid hal
   clear hxi hal
   rcases (by omega : (x.toNat < 48) ∨ (48 ≤ x.toNat ∧ x.toNat ≤ 57) ∨ (58 ≤ x.toNat ∧ x.toNat ≤ 64) ∨ (65 ≤ x.toNat ∧ x.toNat ≤ 90) ∨ (91 ≤ x.toNat ∧ x.toNat ≤ 94) ∨ (x.toNat = 95) ∨ (x.toNat = 96) ∨ (97 ≤ x.toNat ∧ x.toNat ≤ 122) ∨ (123 ≤ x.toNat)) with hc | hc | hc | hc | hc | hc | hc | hc | hc
   ·
    have d1 : decide ((97 : Int) ≤ (x.toNat : Int)) = false := by simp; omega
    have d2 : decide ((x.toNat : Int) ≤ 122) = true := by simp; omega
    have d3 : decide ((65 : Int) ≤ (x.toNat : Int)) = false := by simp; omega
    have d4 : decide ((x.toNat : Int) ≤ 90) = true := by simp; omega
    have d5 : decide ((48 : Int) ≤ (x.toNat : Int)) = false := by simp; omega
    have d6 : decide ((x.toNat : Int) ≤ 57) = true := by simp; omega
    have d7 : ((x.toNat : Int) != 95) = true := by simp; omega
    have ho : okB x = false := by unfold okB; simp; omega
    have HO := Lib.hid ho
    clear ho hc
    go_wp2
    go_ret
    exact ⟨by unfold mayB; rw [all_not _ _ _ HX.out HO.out]; rfl, rfl⟩
   ·
    have d1 : decide ((97 : Int) ≤ (x.toNat : Int)) = false := by simp; omega
    have d2 : decide ((x.toNat : Int) ≤ 122) = true := by simp; omega
    have d3 : decide ((65 : Int) ≤ (x.toNat : Int)) = false := by simp; omega
    have d4 : decide ((x.toNat : Int) ≤ 90) = true := by simp; omega
    have d5 : decide ((48 : Int) ≤ (x.toNat : Int)) = true := by simp; omega
    have d6 : decide ((x.toNat : Int) ≤ 57) = true := by simp; omega
    have d7 : ((x.toNat : Int) != 95) = true := by simp; omega
    have ho : okB x = true := by unfold okB; simp; omega
    have HO := Lib.hid ho
    clear ho hc
    go_wp2
    go_round
    case rel => exact ⟨i + 1, by omega, by go_num, by rw [all_take _ _ _ HX.out, HAL.out, HO.out]; rfl⟩
    case measure => simp [intOf]; omega
   ·
    have d1 : decide ((97 : Int) ≤ (x.toNat : Int)) = false := by simp; omega
    have d2 : decide ((x.toNat : Int) ≤ 122) = true := by simp; omega
    have d3 : decide ((65 : Int) ≤ (x.toNat : Int)) = false := by simp; omega
    have d4 : decide ((x.toNat : Int) ≤ 90) = true := by simp; omega
    have d5 : decide ((48 : Int) ≤ (x.toNat : Int)) = true := by simp; omega
    have d6 : decide ((x.toNat : Int) ≤ 57) = false := by simp; omega
    have d7 : ((x.toNat : Int) != 95) = true := by simp; omega
    have ho : okB x = false := by unfold okB; simp; omega
    have HO := Lib.hid ho
    clear ho hc
    go_wp2
    go_ret
    exact ⟨by unfold mayB; rw [all_not _ _ _ HX.out HO.out]; rfl, rfl⟩
   ·
    have d1 : decide ((97 : Int) ≤ (x.toNat : Int)) = false := by simp; omega
    have d2 : decide ((x.toNat : Int) ≤ 122) = true := by simp; omega
    have d3 : decide ((65 : Int) ≤ (x.toNat : Int)) = true := by simp; omega
    have d4 : decide ((x.toNat : Int) ≤ 90) = true := by simp; omega
    have d5 : decide ((48 : Int) ≤ (x.toNat : Int)) = true := by simp; omega
    have d6 : decide ((x.toNat : Int) ≤ 57) = false := by simp; omega
    have d7 : ((x.toNat : Int) != 95) = true := by simp; omega
    have ho : okB x = true := by unfold okB; simp; omega
    have HO := Lib.hid ho
    clear ho hc
    go_wp2
    go_round
    case rel => exact ⟨i + 1, by omega, by go_num, by rw [all_take _ _ _ HX.out, HAL.out, HO.out]; rfl⟩
    case measure => simp [intOf]; omega
   ·
    have d1 : decide ((97 : Int) ≤ (x.toNat : Int)) = false := by simp; omega
    have d2 : decide ((x.toNat : Int) ≤ 122) = true := by simp; omega
    have d3 : decide ((65 : Int) ≤ (x.toNat : Int)) = true := by simp; omega
    have d4 : decide ((x.toNat : Int) ≤ 90) = false := by simp; omega
    have d5 : decide ((48 : Int) ≤ (x.toNat : Int)) = true := by simp; omega
    have d6 : decide ((x.toNat : Int) ≤ 57) = false := by simp; omega
    have d7 : ((x.toNat : Int) != 95) = true := by simp; omega
    have ho : okB x = false := by unfold okB; simp; omega
    have HO := Lib.hid ho
    clear ho hc
    go_wp2
    go_ret
    exact ⟨by unfold mayB; rw [all_not _ _ _ HX.out HO.out]; rfl, rfl⟩
   ·
    have d1 : decide ((97 : Int) ≤ (x.toNat : Int)) = false := by simp; omega
    have d2 : decide ((x.toNat : Int) ≤ 122) = true := by simp; omega
    have d3 : decide ((65 : Int) ≤ (x.toNat : Int)) = true := by simp; omega
    have d4 : decide ((x.toNat : Int) ≤ 90) = false := by simp; omega
    have d5 : decide ((48 : Int) ≤ (x.toNat : Int)) = true := by simp; omega
    have d6 : decide ((x.toNat : Int) ≤ 57) = false := by simp; omega
    have d7 : ((x.toNat : Int) != 95) = false := by simp; omega
    have ho : okB x = true := by unfold okB; simp; omega
    have HO := Lib.hid ho
    clear ho hc
    go_wp2
    go_round
    case rel => exact ⟨i + 1, by omega, by go_num, by rw [all_take _ _ _ HX.out, HAL.out, HO.out]; rfl⟩
    case measure => simp [intOf]; omega
   ·
    have d1 : decide ((97 : Int) ≤ (x.toNat : Int)) = false := by simp; omega
    have d2 : decide ((x.toNat : Int) ≤ 122) = true := by simp; omega
    have d3 : decide ((65 : Int) ≤ (x.toNat : Int)) = true := by simp; omega
    have d4 : decide ((x.toNat : Int) ≤ 90) = false := by simp; omega
    have d5 : decide ((48 : Int) ≤ (x.toNat : Int)) = true := by simp; omega
    have d6 : decide ((x.toNat : Int) ≤ 57) = false := by simp; omega
    have d7 : ((x.toNat : Int) != 95) = true := by simp; omega
    have ho : okB x = false := by unfold okB; simp; omega
    have HO := Lib.hid ho
    clear ho hc
    go_wp2
    go_ret
    exact ⟨by unfold mayB; rw [all_not _ _ _ HX.out HO.out]; rfl, rfl⟩
   ·
    have d1 : decide ((97 : Int) ≤ (x.toNat : Int)) = true := by simp; omega
    have d2 : decide ((x.toNat : Int) ≤ 122) = true := by simp; omega
    have d3 : decide ((65 : Int) ≤ (x.toNat : Int)) = true := by simp; omega
    have d4 : decide ((x.toNat : Int) ≤ 90) = false := by simp; omega
    have d5 : decide ((48 : Int) ≤ (x.toNat : Int)) = true := by simp; omega
    have d6 : decide ((x.toNat : Int) ≤ 57) = false := by simp; omega
    have d7 : ((x.toNat : Int) != 95) = true := by simp; omega
    have ho : okB x = true := by unfold okB; simp; omega
    have HO := Lib.hid ho
    clear ho hc
    go_wp2
    go_round
    case rel => exact ⟨i + 1, by omega, by go_num, by rw [all_take _ _ _ HX.out, HAL.out, HO.out]; rfl⟩
    case measure => simp [intOf]; omega
   ·
    have d1 : decide ((97 : Int) ≤ (x.toNat : Int)) = true := by simp; omega
    have d2 : decide ((x.toNat : Int) ≤ 122) = false := by simp; omega
    have d3 : decide ((65 : Int) ≤ (x.toNat : Int)) = true := by simp; omega
    have d4 : decide ((x.toNat : Int) ≤ 90) = false := by simp; omega
    have d5 : decide ((48 : Int) ≤ (x.toNat : Int)) = true := by simp; omega
    have d6 : decide ((x.toNat : Int) ≤ 57) = false := by simp; omega
    have d7 : ((x.toNat : Int) != 95) = true := by simp; omega
    have ho : okB x = false := by unfold okB; simp; omega
    have HO := Lib.hid ho
    clear ho hc
    go_wp2
    go_ret
    exact ⟨by unfold mayB; rw [all_not _ _ _ HX.out HO.out]; rfl, rfl⟩
  ·
   obtain rfl : i = s.size := by omega
   have ha : s.data.toList.all okB = true := by rwa [List.take_of_length_le (by simp)] at hal
   have HA := Lib.hid ha
   clear hal ha hlt
   by_cases h1 : 1 ≤ s.size
   ·
    have e1 : decide ((1 : Int) ≤ (s.size : Int)) = true := by simp; omega
    by_cases h2 : s.size ≤ 32
    ·
     have e2 : decide ((s.size : Int) ≤ 32) = true := by simp; omega
     go_wp2
     go_ret
     exact ⟨by unfold mayB; rw [HA.out, decide_eq_true h1, decide_eq_true h2]; rfl, rfl⟩
    ·
     have e2 : decide ((s.size : Int) ≤ 32) = false := by simp; omega
     go_wp2
     go_ret
     exact ⟨by unfold mayB; rw [HA.out, decide_eq_true h1, decide_eq_false h2]; rfl, rfl⟩
   ·
    have e1 : decide ((1 : Int) ≤ (s.size : Int)) = false := by simp; omega
    go_wp2
    go_ret
    exact ⟨by unfold mayB; rw [HA.out, decide_eq_false h1]; rfl, rfl⟩
end Go.Proofs.YtoigpbajefkpoaaGreatDoor

set_option linter.unusedVariables false
namespace Go.Proofs.YtoigpbajefkpoaaGreatDoor
open Go Go.RowKit

def isBl (c : UInt8) : Bool := c == 32 || c == 9 || c == 10 || c == 13
/-- How many blanks stand ahead; within a comment, or not. -/
def blN : Bool → List UInt8 → Nat
  | _, [] => 0
  | true, c :: l => if c = 10 then 1 + blN false l else 1 + blN true l
  | false, c :: l => if c = 37 then 1 + blN true l else if isBl c then 1 + blN false l else 0
def letN (l : List UInt8) : Nat := (l.takeWhile okB).length
def markN (l : List UInt8) : Nat × Nat :=
  match l with
  | [] => (0, 0)
  | c :: r => if c = 40 then (5, 1) else if c = 41 then (6, 1) else if c = 44 then (7, 1) else if c = 46 then (8, 1) else if c = 58 ∧ r.head? = some 45 then (9, 2) else (0, 0)
def kindL (s : List UInt8) : Nat :=
  if s = [110, 111, 116] then 3 else if s = [115, 97, 121, 115] then 4 else match s.head? with
  | some c => if 65 ≤ c.toNat ∧ c.toNat ≤ 90 then 2 else 1
  | none => 1
/-- The kind of the word that stands ahead, and how many bytes it has; none: 0. -/
def wordN (l : List UInt8) : Nat × Nat :=
  if (markN l).2 ≠ 0 then markN l else if letN l = 0 ∨ 32 < letN l then (0, 0) else (kindL (l.take (letN l)), letN l)
/-- A word: its kind, its text, its place. -/
abbrev Wd := Nat × List UInt8 × Nat
theorem blN_le : ∀ (cm : Bool) (l : List UInt8), blN cm l ≤ l.length
  | _, [] => by simp [blN]
  | true, c :: l => by
    have h1 := blN_le false l
    have h2 := blN_le true l
    rw [blN, List.length_cons]
    split <;> omega
  | false, c :: l => by
    have h1 := blN_le false l
    have h2 := blN_le true l
    rw [blN, List.length_cons]
    split
    · omega
    · split <;> omega
theorem letN_le (l : List UInt8) : letN l ≤ l.length := (List.takeWhile_prefix okB).length_le
theorem wordN_le (l : List UInt8) : (wordN l).2 ≤ l.length := by
  unfold wordN
  split
  · cases l with
    | nil => simp [markN]
    | cons c r =>
      unfold markN
      dsimp only
      rw [List.length_cons]
      repeat' split
      all_goals first
        | (dsimp only; omega)
        | (rename_i h
           cases r with
           | nil => simp at h
           | cons d r => simp)
  · split
    · exact Nat.zero_le _
    · exact letN_le l
/-- The words, up to what is wrong; its place, if something is. -/
def lexG (a : Nat) (l : List UInt8) : List Wd × Option Nat :=
  if h : l.drop (blN false l) = [] then ([], none) else
  if hn : (wordN (l.drop (blN false l))).2 = 0 then ([], some (a + blN false l)) else
  let r := lexG (a + blN false l + (wordN (l.drop (blN false l))).2) ((l.drop (blN false l)).drop (wordN (l.drop (blN false l))).2)
  (((wordN (l.drop (blN false l))).1, (l.drop (blN false l)).take (wordN (l.drop (blN false l))).2, a + blN false l) :: r.1, r.2)
termination_by l.length
decreasing_by
  have h1 := wordN_le (l.drop (blN false l))
  rw [List.length_drop] at h1 ⊢
  rw [List.length_drop]
  omega
theorem lexG_end {a : Nat} {l : List UInt8} (h : l.drop (blN false l) = []) : lexG a l = ([], none) := by
  rw [lexG, dif_pos h]
theorem lexG_bad {a : Nat} {l l1 : List UInt8} (h : l.drop (blN false l) = l1) (h1 : l1 ≠ []) (hn : (wordN l1).2 = 0) : lexG a l = ([], some (a + blN false l)) := by
  subst h
  rw [lexG, dif_neg h1, dif_pos hn]
theorem lexG_word {a : Nat} {l l1 : List UInt8} {k n : Nat} (h : l.drop (blN false l) = l1) (hn : wordN l1 = (k, n)) (h0 : n ≠ 0) :
    lexG a l = ((k, l1.take n, a + blN false l) :: (lexG (a + blN false l + n) (l1.drop n)).1, (lexG (a + blN false l + n) (l1.drop n)).2) := by
  have h1 : l1 ≠ [] := by
    rintro rfl
    have := wordN_le []
    rw [hn] at this
    exact h0 (by simpa using this)
  subst h
  rw [lexG, dif_neg h1, dif_neg (by rw [hn]; exact h0)]
  simp only [hn]
/-- The whole answer. -/
def wordsL (l : List UInt8) : List Wd × Nat × Nat :=
  if 65536 < l.length then ([], 0, 6) else match lexG 0 l with
  | (ws, none) => (ws, 0, 0)
  | (_, some k) => ([], k, 5)
def joinL : List Wd → List UInt8
  | [] => []
  | [w] => w.2.1
  | w :: v :: r => w.2.1 ++ 32 :: joinL (v :: r)

/-! ### blanks -/
theorem blN_nl (b : List UInt8) : ∀ (cm : Bool) (a : List UInt8), blN cm (a ++ 10 :: b) = if blN cm a = a.length then a.length + 1 + blN false b else blN cm a
  | true, [] => by simp [blN]
  | false, [] => by simp [blN, isBl]
  | true, c :: a => by
    rw [List.cons_append, blN, blN, List.length_cons]
    have h1 := blN_nl b false a
    have h2 := blN_nl b true a
    by_cases hc : c = 10
    · rw [if_pos hc, if_pos hc, h1]
      by_cases h : blN false a = a.length
      · rw [if_pos h, if_pos (by omega)]; omega
      · rw [if_neg h, if_neg (by omega)]
    · rw [if_neg hc, if_neg hc, h2]
      by_cases h : blN true a = a.length
      · rw [if_pos h, if_pos (by omega)]; omega
      · rw [if_neg h, if_neg (by omega)]
  | false, c :: a => by
    rw [List.cons_append, blN, blN, List.length_cons]
    have h1 := blN_nl b false a
    have h2 := blN_nl b true a
    by_cases hc : c = 37
    · rw [if_pos hc, if_pos hc, h2]
      by_cases h : blN true a = a.length
      · rw [if_pos h, if_pos (by omega)]; omega
      · rw [if_neg h, if_neg (by omega)]
    · rw [if_neg hc, if_neg hc]
      cases hb : isBl c with
      | false => simp
      | true =>
        simp only [if_true]
        rw [h1]
        by_cases h : blN false a = a.length
        · rw [if_pos h, if_pos (by omega)]; omega
        · rw [if_neg h, if_neg (by omega)]
/-- What ends as it began. -/
def shutBl (s : List UInt8) : Prop := ∀ l, blN false (s ++ l) = s.length + blN false l
theorem blN_drop {cm : Bool} {l : List UInt8} : l.drop (blN cm l) = [] ↔ blN cm l = l.length := by
  have := blN_le cm l
  rw [List.drop_eq_nil_iff]
  omega

/-! ### a word, and what stands behind it -/
theorem takeWhile_stop {p : UInt8 → Bool} {d : UInt8} (hd : p d = false) (b : List UInt8) : ∀ a : List UInt8, (a ++ d :: b).takeWhile p = a.takeWhile p
  | [] => by simp [hd]
  | c :: a => by
    rw [List.cons_append, List.takeWhile_cons, List.takeWhile_cons, takeWhile_stop hd b a]
/-- d is no letter and no line. -/
theorem wordN_stop {d : UInt8} (hd : okB d = false) (h45 : d ≠ 45) (b : List UInt8) {l : List UInt8} (hl : l ≠ []) : wordN (l ++ d :: b) = wordN l := by
  have h1 : letN (l ++ d :: b) = letN l := by unfold letN; rw [takeWhile_stop hd]
  have h2 : markN (l ++ d :: b) = markN l := by
    cases l with
    | nil => exact absurd rfl hl
    | cons c r =>
      unfold markN
      rw [List.cons_append]
      dsimp only
      have : ((r ++ d :: b).head? = some 45) ↔ (r.head? = some 45) := by
        cases r with
        | nil => simp [h45]
        | cons e r => simp
      simp only [this]
  unfold wordN
  rw [h1, h2, List.take_append_of_le_length (letN_le l)]
theorem lexG_shift (d : Nat) (a : Nat) (l : List UInt8) : lexG (a + d) l = ((lexG a l).1.map fun w => (w.1, w.2.1, w.2.2 + d), (lexG a l).2.map (· + d)) := by
  by_cases h : l.drop (blN false l) = []
  · rw [lexG_end h, lexG_end h]; rfl
  · obtain ⟨k, n, hw⟩ : ∃ k n, wordN (l.drop (blN false l)) = (k, n) := ⟨_, _, rfl⟩
    by_cases h0 : n = 0
    · subst h0
      rw [lexG_bad rfl h (by rw [hw]), lexG_bad rfl h (by rw [hw])]
      simp only [List.map_nil, Option.map_some, Prod.mk.injEq, Option.some.injEq, true_and]
      omega
    · rw [lexG_word rfl hw h0, lexG_word rfl hw h0]
      have hlt : ((l.drop (blN false l)).drop n).length < l.length := by
        have h1 := wordN_le (l.drop (blN false l))
        rw [hw, List.length_drop] at h1
        simp only [List.length_drop]
        omega
      have ih := lexG_shift d (a + blN false l + n) ((l.drop (blN false l)).drop n)
      rw [show a + d + blN false l + n = a + blN false l + n + d by omega, ih, show a + d + blN false l = a + blN false l + d by omega]
      simp only [List.map_cons]
termination_by l.length
/-- Two texts with an end of a line between. -/
theorem lexG_nl (b : List UInt8) (a0 : Nat) (a : List UInt8) : lexG a0 (a ++ 10 :: b) = match lexG a0 a with
    | (ws, none) => (ws ++ (lexG (a0 + a.length + 1) b).1, (lexG (a0 + a.length + 1) b).2)
    | (ws, some k) => (ws, some k) := by
  have hnl := blN_nl b false a
  have hle := blN_le false a
  by_cases h : blN false a = a.length
  · have hd := blN_drop.2 h
    rw [lexG_end hd]
    rw [if_pos h] at hnl
    simp only [List.nil_append]
    have hdr : (a ++ 10 :: b).drop (blN false (a ++ 10 :: b)) = b.drop (blN false b) := by
      rw [hnl, show a.length + 1 + blN false b = a.length + (1 + blN false b) by omega, ← List.drop_drop, List.drop_left, Nat.add_comm 1, List.drop_succ_cons]
    by_cases hb : b.drop (blN false b) = []
    · rw [lexG_end (hdr.trans hb), lexG_end hb]
    · obtain ⟨k, n, hw⟩ : ∃ k n, wordN (b.drop (blN false b)) = (k, n) := ⟨_, _, rfl⟩
      by_cases h0 : n = 0
      · subst h0
        rw [lexG_bad hdr hb (by rw [hw]), lexG_bad rfl hb (by rw [hw]), hnl]
        simp only [Prod.mk.injEq, Option.some.injEq, true_and]
        omega
      · rw [lexG_word hdr hw h0, lexG_word rfl hw h0, hnl, show a0 + (a.length + 1 + blN false b) = a0 + a.length + 1 + blN false b by omega]
  · rw [if_neg h] at hnl
    have hne : a.drop (blN false a) ≠ [] := fun hd => h (blN_drop.1 hd)
    have hdr : (a ++ 10 :: b).drop (blN false (a ++ 10 :: b)) = a.drop (blN false a) ++ 10 :: b := by
      rw [hnl, List.drop_append_of_le_length hle]
    have hw1 := wordN_stop (d := 10) (by decide) (by decide) b hne
    obtain ⟨k, n, hw⟩ : ∃ k n, wordN (a.drop (blN false a)) = (k, n) := ⟨_, _, rfl⟩
    have hwl := wordN_le (a.drop (blN false a))
    rw [hw] at hw1 hwl
    dsimp only at hwl
    by_cases h0 : n = 0
    · subst h0
      rw [lexG_bad hdr (by simp) (by rw [hw1]), lexG_bad rfl hne (by rw [hw]), hnl]
    · have hlt : ((a.drop (blN false a)).drop n).length < a.length := by
        rw [List.length_drop] at hwl
        simp only [List.length_drop]
        omega
      have ih := lexG_nl b (a0 + blN false a + n) ((a.drop (blN false a)).drop n)
      rw [lexG_word hdr hw1 h0, lexG_word rfl hw h0, hnl, List.drop_append_of_le_length hwl, List.take_append_of_le_length hwl, ih]
      rw [show a0 + blN false a + n + ((a.drop (blN false a)).drop n).length + 1 = a0 + a.length + 1 by
        rw [List.length_drop] at hwl
        simp only [List.length_drop]; omega]
      cases lexG (a0 + blN false a + n) ((a.drop (blN false a)).drop n) with
      | mk ws e =>
        cases e with
        | none => rfl
        | some k => rfl
termination_by a.length
end Go.Proofs.YtoigpbajefkpoaaGreatDoor

set_option linter.unusedVariables false
set_option linter.unusedSimpArgs false
namespace Go.Proofs.YtoigpbajefkpoaaGreatDoor
open Go Go.RowKit

/-! ### blanks put in -/
theorem shutBl.app {s t : List UInt8} (hs : shutBl s) (ht : shutBl t) : shutBl (s ++ t) := fun l => by
 rw [List.append_assoc, hs, ht, List.length_append]; omega
theorem lexG_shut {s : List UInt8} (hs : shutBl s) (a : Nat) (l : List UInt8) : lexG a (s ++ l) = lexG (a + s.length) l := by
 have hb := hs l
 have hdr : (s ++ l).drop (blN false (s ++ l)) = l.drop (blN false l) := by
  rw [hb, ← List.drop_drop, List.drop_left]
 by_cases h : l.drop (blN false l) = []
 ·
  rw [lexG_end (hdr.trans h), lexG_end h]
 ·
  obtain ⟨k, n, hw⟩ : ∃ k n, wordN (l.drop (blN false l)) = (k, n) := ⟨_, _, rfl⟩
  by_cases h0 : n = 0
  ·
   subst h0
   rw [lexG_bad hdr h (by rw [hw]), lexG_bad rfl h (by rw [hw]), hb]
   simp only [Prod.mk.injEq, Option.some.injEq, true_and]
   omega
  ·
   rw [lexG_word hdr hw h0, lexG_word rfl hw h0, hb, show a + (s.length + blN false l) = a + s.length + blN false l by omega]
/-! ### each word stands where it says -/
/-- The words stand in the text, one behind the other. -/
def Stand (bs : List UInt8) : Nat → List Wd → Prop
 | _, [] => True
 | last, w :: ws => w.2.1 ≠ [] ∧ last ≤ w.2.2 ∧ w.2.2 + w.2.1.length ≤ bs.length ∧ (bs.drop w.2.2).take w.2.1.length = w.2.1 ∧ Stand bs (w.2.2 + w.2.1.length) ws
theorem Stand.more {bs : List UInt8} {a b : Nat} {ws : List Wd} (h : Stand bs a ws) (hb : b ≤ a) : Stand bs b ws := by
 cases ws with
 | nil => trivial
 | cons w ws => exact ⟨h.1, Nat.le_trans hb h.2.1, h.2.2⟩
theorem lexG_stand (p l : List UInt8) : Stand (p ++ l) p.length (lexG p.length l).1 := by
 by_cases h : l.drop (blN false l) = []
 ·
  rw [lexG_end h]; trivial
 ·
  obtain ⟨k, n, hw⟩ : ∃ k n, wordN (l.drop (blN false l)) = (k, n) := ⟨_, _, rfl⟩
  have hwl := wordN_le (l.drop (blN false l))
  rw [hw, List.length_drop] at hwl
  dsimp only at hwl
  have hbl := blN_le false l
  by_cases h0 : n = 0
  ·
   subst h0
   rw [lexG_bad rfl h (by rw [hw])]; trivial
  ·
   rw [lexG_word rfl hw h0]
   have hlen : ((l.drop (blN false l)).take n).length = n := by rw [List.length_take, List.length_drop]; omega
   have hlt : ((l.drop (blN false l)).drop n).length < l.length := by simp only [List.length_drop]; omega
   have ih := lexG_stand (p ++ l.take (blN false l + n)) ((l.drop (blN false l)).drop n)
   have hpl : (p ++ l.take (blN false l + n)).length = p.length + blN false l + n := by rw [List.length_append, List.length_take]; omega
   rw [hpl, List.drop_drop, List.append_assoc, List.take_append_drop, ← List.drop_drop] at ih
   refine ⟨fun e => h0 (by rw [← hlen]; exact congrArg List.length e), by dsimp only; omega, ?_, ?_, ?_⟩
   ·
    dsimp only
    rw [hlen, List.length_append]
    omega
   ·
    dsimp only
    rw [hlen, List.drop_append, List.drop_of_length_le (by omega), List.nil_append, show p.length + blN false l - p.length = blN false l by omega]
   ·
    dsimp only
    rw [hlen]
    exact ih
termination_by l.length

/-! ### words wiped out -/
/-! ### words joined -/
theorem blN_next : ∀ (cm : Bool) (l : List UInt8), l.drop (blN cm l) ≠ [] → blN false (l.drop (blN cm l)) = 0
 | true, [] => by simp [blN]
 | false, [] => by simp [blN]
 | true, c :: l => by
  have h1 := blN_next false l
  have h2 := blN_next true l
  intro h
  rw [blN] at h ⊢
  by_cases hc : c = 10
  ·
   rw [if_pos hc, Nat.add_comm 1, List.drop_succ_cons] at h ⊢
   exact h1 h
  ·
   rw [if_neg hc, Nat.add_comm 1, List.drop_succ_cons] at h ⊢
   exact h2 h
 | false, c :: l => by
  have h1 := blN_next false l
  have h2 := blN_next true l
  intro h
  rw [blN] at h ⊢
  by_cases hc : c = 37
  ·
   rw [if_pos hc, Nat.add_comm 1, List.drop_succ_cons] at h ⊢
   exact h2 h
  ·
   rw [if_neg hc] at h ⊢
   cases hb : isBl c with
   | false => simp [blN, hc, hb]
   | true =>
    rw [hb] at h
    simp only [if_true] at h ⊢
    rw [Nat.add_comm 1, List.drop_succ_cons] at h ⊢
    exact h1 h
theorem blN_zero {l : List UInt8} (h : blN false l = 0) (hl : l ≠ []) : ∃ c r, l = c :: r ∧ ∀ x, blN false (c :: x) = 0 := by
 cases l with
 | nil => exact absurd rfl hl
 | cons c r =>
  refine ⟨c, r, rfl, fun x => ?_⟩
  rw [blN] at h ⊢
  by_cases hc : c = 37
  ·
   rw [if_pos hc] at h; omega
  ·
   rw [if_neg hc] at h ⊢
   cases hb : isBl c with
   | false => simp
   | true => rw [hb] at h; simp at h
theorem markN_ok {c : UInt8} (hc : okB c = true) (r : List UInt8) : markN (c :: r) = (0, 0) := by
 unfold markN
 dsimp only
 rw [if_neg (by rintro rfl; simp [okB] at hc), if_neg (by rintro rfl; simp [okB] at hc), if_neg (by rintro rfl; simp [okB] at hc), if_neg (by rintro rfl; simp [okB] at hc), if_neg (by rintro ⟨rfl, _⟩; simp [okB] at hc)]
theorem takeWhile_take {p : UInt8 → Bool} : ∀ l : List UInt8, (l.take (l.takeWhile p).length).takeWhile p = l.take (l.takeWhile p).length
 | [] => by simp
 | c :: l => by
  rw [List.takeWhile_cons]
  cases hp : p c with
  | false => simp
  | true =>
   simp only [if_true, List.length_cons, List.take_succ_cons, List.takeWhile_cons, hp]
   rw [takeWhile_take l]
/-- A word alone is that word. -/
theorem wordN_self {l : List UInt8} {k n : Nat} (h : wordN l = (k, n)) (h0 : n ≠ 0) : wordN (l.take n) = (k, n) := by
 unfold wordN at h
 split at h
 ·
  rename_i hm
  cases l with
  | nil => simp [markN] at hm
  | cons c r =>
   have hk : markN ((c :: r).take n) = (k, n) := by
    have h' := h
    unfold markN at h'
    dsimp only at h'
    repeat' split at h'
    all_goals simp only [Prod.mk.injEq] at h'
    ·
     obtain ⟨rfl, rfl⟩ := h'; rename_i e; subst e; rfl
    ·
     obtain ⟨rfl, rfl⟩ := h'; rename_i e; subst e; rfl
    ·
     obtain ⟨rfl, rfl⟩ := h'; rename_i e; subst e; rfl
    ·
     obtain ⟨rfl, rfl⟩ := h'; rename_i e; subst e; rfl
    ·
     obtain ⟨rfl, rfl⟩ := h'
     rename_i e
     obtain ⟨rfl, e⟩ := e
     cases r with
     | nil => simp at e
     | cons d r =>
      simp only [List.head?_cons, Option.some.injEq] at e
      subst e
      rfl
    ·
     omega
   unfold wordN
   rw [hk, if_pos h0]
 ·
  split at h
  ·
   simp only [Prod.mk.injEq] at h
   omega
  ·
   rename_i hm hn
   simp only [Prod.mk.injEq] at h
   obtain ⟨hk, hl⟩ := h
   subst hl
   have hlet : letN (l.take (letN l)) = letN l := by
    unfold letN
    rw [takeWhile_take, List.length_take]
    have := letN_le l
    unfold letN at this
    omega
   have hmk : markN (l.take (letN l)) = (0, 0) := by
    cases l with
    | nil => simp [letN] at h0
    | cons c r =>
     have hc : okB c = true := by
      cases hc : okB c with
      | true => rfl
      | false => unfold letN at h0; rw [List.takeWhile_cons, hc] at h0; simp at h0
     have h1 : ∃ m, letN (c :: r) = m + 1 := ⟨letN (c :: r) - 1, by omega⟩
     obtain ⟨m, hm⟩ := h1
     rw [hm, List.take_succ_cons]
     exact markN_ok hc _
   unfold wordN
   rw [hmk, if_neg (by simp), hlet, if_neg hn, List.take_take, Nat.min_self, hk]
/-- A list of words, each as it stands alone. -/
def Alone (ws : List Wd) : Prop := ∀ w ∈ ws, wordN w.2.1 = (w.1, w.2.1.length) ∧ w.2.1 ≠ [] ∧ ∀ x, blN false (w.2.1 ++ x) = 0
theorem lexG_alone (a : Nat) (l : List UInt8) : Alone (lexG a l).1 := by
 by_cases h : l.drop (blN false l) = []
 ·
  rw [lexG_end h]; intro w hw; cases hw
 ·
  obtain ⟨k, n, hw⟩ : ∃ k n, wordN (l.drop (blN false l)) = (k, n) := ⟨_, _, rfl⟩
  have hwl := wordN_le (l.drop (blN false l))
  rw [hw] at hwl
  dsimp only at hwl
  by_cases h0 : n = 0
  ·
   subst h0
   rw [lexG_bad rfl h (by rw [hw])]; intro w hw; cases hw
  ·
   rw [lexG_word rfl hw h0]
   have hlt : ((l.drop (blN false l)).drop n).length < l.length := by
    have hbl := blN_le false l
    rw [List.length_drop] at hwl
    simp only [List.length_drop]
    omega
   have ih := lexG_alone (a + blN false l + n) ((l.drop (blN false l)).drop n)
   have hlen : ((l.drop (blN false l)).take n).length = n := by rw [List.length_take]; omega
   intro w hmem
   rcases List.mem_cons.1 hmem with rfl | hmem
   ·
    refine ⟨by dsimp only; rw [hlen]; exact wordN_self hw h0, fun e => h0 (by rw [← hlen]; exact congrArg List.length e), fun x => ?_⟩
    dsimp only
    obtain ⟨c, r, hc, hx⟩ := blN_zero (blN_next false l h) h
    rw [hc]
    obtain ⟨m, rfl⟩ : ∃ m, n = m + 1 := ⟨n - 1, by omega⟩
    rw [List.take_succ_cons, List.cons_append]
    exact hx _
   ·
    exact ih w hmem
termination_by l.length
theorem shut32 : shutBl [32] := fun l => by
 rw [List.cons_append, List.nil_append, blN, if_neg (by decide)]
 simp [isBl]
/-- What words are, but for their places. -/
def texts (ws : List Wd) : List (Nat × List UInt8) := ws.map fun w => (w.1, w.2.1)
theorem joinL_len {bs : List UInt8} : ∀ (ws : List Wd) (a : Nat), Stand bs a ws → a ≤ bs.length → (joinL ws).length + 2 * a ≤ 2 * bs.length
 | [], a, _, ha => by simp [joinL]; omega
 | [w], a, h, ha => by
  have := h.2.1
  have := h.2.2.1
  simp only [joinL]
  omega
 | w :: v :: r, a, h, ha => by
  have h1 := h.2.1
  have h2 := h.2.2.1
  have h3 := joinL_len (v :: r) _ h.2.2.2.2 (by omega)
  have h4 : 1 ≤ w.2.1.length := by
   cases hw : w.2.1 with
   | nil => exact absurd hw h.1
   | cons c l => simp
  simp only [joinL, List.length_append, List.length_cons]
  omega
theorem lexG_pos (a : Nat) (l : List UInt8) {k : Nat} (h : (lexG a l).2 = some k) : a ≤ k ∧ k < a + l.length := by
 by_cases h1 : l.drop (blN false l) = []
 ·
  rw [lexG_end h1] at h; cases h
 ·
  obtain ⟨kk, n, hw⟩ : ∃ k n, wordN (l.drop (blN false l)) = (k, n) := ⟨_, _, rfl⟩
  have hwl := wordN_le (l.drop (blN false l))
  rw [hw, List.length_drop] at hwl
  dsimp only at hwl
  have hbl := blN_le false l
  have hb1 : blN false l < l.length := by
   rcases Nat.lt_or_ge (blN false l) l.length with h2 | h2
   ·
    exact h2
   ·
    exact absurd (List.drop_of_length_le h2) h1
  by_cases h0 : n = 0
  ·
   subst h0
   rw [lexG_bad rfl h1 (by rw [hw])] at h
   simp only [Option.some.injEq] at h
   omega
  ·
   rw [lexG_word rfl hw h0] at h
   have hlt : ((l.drop (blN false l)).drop n).length < l.length := by simp only [List.length_drop]; omega
   have ih := lexG_pos _ _ h
   simp only [List.length_drop] at ih
   omega
termination_by l.length
end Go.Proofs.YtoigpbajefkpoaaGreatDoor

set_option linter.unusedVariables false
set_option linter.unusedSimpArgs false
namespace Go.Proofs.YtoigpbajefkpoaaGreatDoor
open Go Go.RowKit

/-- A text's bytes. -/
abbrev tb (s : ByteArray) : List UInt8 := s.data.toList
theorem tb_len (s : ByteArray) : (tb s).length = s.size := by simp [tb]
theorem tb_at {s : ByteArray} {k : Nat} (hk : k < s.size) : (tb s).drop k = s[k] :: (tb s).drop (k + 1) := by
 have h : k < (tb s).length := by rw [tb_len]; exact hk
 rw [List.drop_eq_getElem_cons h]
 simp [tb, ByteArray.getElem_eq_getElem_data]
theorem tb_extract (s : ByteArray) (a b : Nat) : tb (s.extract a b) = ((tb s).drop a).take (b - a) := by
 simp [tb, ByteArray.data_extract, List.drop_take]
/-- A part of a text. -/
theorem run_part (s : ByteArray) (a b : Nat) (i j : Int) (hi : i = (a : Int)) (hj : j = (b : Int)) (h : a ≤ b) (hb : b ≤ s.size) (w : World) :
  (Instr.slice 9 (sv s) (some (.int .i64 i)) (some (.int .i64 j)) none).run Tryz.prog w = .ok (sv (s.extract a b)) w := by
 subst hi hj
 rw [run_slice_string_if w _ _ _ _ _ _ Tryz.underlying9]
 rw [if_pos (by omega), if_pos (by omega), Int.toNat_natCast, Int.toNat_natCast]
theorem mayB_one {s : ByteArray} {k : Nat} (hk : k < s.size) : mayB (s.extract k (k + 1)) = okB s[k] := by
 have h1 := tb_extract s k (k + 1)
 rw [tb_at hk, show k + 1 - k = 1 by omega] at h1
 simp only [List.take_succ_cons, List.take_zero] at h1
 have h2 := tb_len (s.extract k (k + 1))
 rw [h1] at h2
 unfold mayB
 rw [show (s.extract k (k + 1)).data.toList = [s[k]] from h1, ← h2]
 simp

set_option maxRecDepth 100000 in
set_option maxHeartbeats 4000000 in
theorem rLetters_any (s : ByteArray) (a : Nat) (w : World) (hs : s.size ≤ 1099511627776) (ha : a ≤ s.size) :
  Calls Tryz.prog 55 #[sv s, .int .i64 (a : Int)] w fun e w' => e = .returned (.int .i64 (letN ((tb s).drop a) : Int)) ∧ w = w' := by
 go_enter Tryz.func55, Tryz.ntmps55
 repeat (first | go_skip | go_guarded | go_step)
 go_loop [5] (fun q => ∃ k : Nat, a ≤ k ∧ k ≤ s.size ∧ q = .int .i64 (k : Int) ∧ letN ((tb s).drop a) = (k - a) + letN ((tb s).drop k)) (fun q => s.size - (intOf q).toNat)
 case atStart => exact ⟨a, by omega, ha, rfl, by omega⟩
 case round =>
  obtain ⟨k, h1, h2, rfl, hl⟩ := hrel
  have HL := Lib.hid hl
  clear hl
  by_cases hlt : k < s.size
  ·
   have hci : (k : Int) < (s.size : Int) := by omega
   have HM := Lib.hid (mayB_one hlt)
   have HT := Lib.hid (tb_at hlt)
   have hsl := run_part s k (k + 1) (k : Int) ((k : Int) + 1) rfl (by omega) (by omega) (by omega) w
   repeat (first | go_skip | go_guarded | go_step)
   refine (rMay_any (s.extract k (k + 1)) w (by simp; omega)).mono ?_
   rintro e w1 ⟨rfl, rfl⟩
   rw [HM.out]
   dsimp only
   cases ho : okB s[k] with
   | true =>
    have HO := Lib.hid ho
    clear ho
    repeat (first | go_skip | go_guarded | go_step)
    go_round
    case rel => exact ⟨k + 1, by omega, by omega, by go_num, by rw [HL.out, HT.out]; unfold letN; rw [List.takeWhile_cons, HO.out]; simp; omega⟩
    case measure => simp [intOf] <;> omega
   | false =>
    have HZ := Lib.hid (show letN ((tb s).drop a) = k - a by rw [HL.out, HT.out]; unfold letN; rw [List.takeWhile_cons, ho]; simp)
    clear ho
    repeat (first | go_skip | go_guarded | go_step)
    go_ret
    exact ⟨by rw [HZ.out]; simp; omega, rfl⟩
  ·
   obtain rfl : k = s.size := by omega
   repeat (first | go_skip | go_guarded | go_step)
   have HZ := Lib.hid (show letN ((tb s).drop a) = s.size - a by rw [HL.out, List.drop_of_length_le (by rw [tb_len]; omega)]; simp [letN])
   go_ret
   exact ⟨by rw [HZ.out]; simp; omega, rfl⟩
end Go.Proofs.YtoigpbajefkpoaaGreatDoor

