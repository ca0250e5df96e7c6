/- Texts, packed: Aid Blk Fp AtA SaB SaC SaE SaF SaG SbA -/
import Derived.WalkKit
import Derived.ProofKit
import Derived.OpenShut
import Derived.Carry
import Derived.SizedLaws
import Derived.Maps.AppendAt
import Derived.Deep.AppendLies
import Derived.Deep.Draws
import Derived.Laws.BytesArg
import Derived.Lib.Hide
import Derived.Below
import Derived.Test.YtfmghkplafploaaChecked
import Derived.Orders
import Derived.RegionTactic
import Derived.Deep.QuietTactic
import Derived.BigQuiet
import Derived.Deep.RegionHeld3
import Derived.StillTailTactics
import Derived.Deep.Cut
import Derived.Great.BuildSlice
set_option linter.unusedVariables false
namespace Go.Proofs.Ytfmghkplafploaa
open Go Go.RowKit Go.ChangeShapes Go.WideShapes

/-! ### Addresses -/
theorem blockAdd (a : Addr) (n : Nat) : (a.add n).block = a.block := by unfold Addr.add; split <;> rfl
theorem addAdd (a : Addr) (i j : Nat) : (a.add i).add j = a.add (i + j) := by
  unfold Addr.add
  by_cases hi : i = 0 <;> by_cases hj : j = 0 <;> simp [hi, hj, Nat.add_assoc]
theorem addPlain (b o j : Nat) : (⟨b, o, none⟩ : Addr).add j = ⟨b, o + j, none⟩ := by unfold Addr.add; split <;> simp_all

/-! ### A slice that is read: n elements of s cells each; they lie below block B -/
def Rd (w : World) (B s : Nat) (A : Option Addr) (n : Nat) (xs : List Value) : Prop :=
  xs.length = n * s ∧ (0 < n → ∃ b o, A = some ⟨b, o, none⟩ ∧ b < B ∧ ∀ j u, xs[j]? = some u → w.cell? ⟨b, o + j, none⟩ = some u)

section
variable {w w' : World} {B B' s n : Nat} {A : Option Addr} {xs : List Value}
theorem Rd.len1 (h : Rd w B 1 A n xs) : xs.length = n := by have := h.1; omega
theorem Rd.nil : Rd w B s A 0 [] := ⟨by simp, fun h => absurd h (by omega)⟩
theorem Rd.keep (h : Rd w B s A n xs) (hk : ∀ p : Addr, p.block < B → w'.cell? p = w.cell? p) : Rd w' B s A n xs :=
  ⟨h.1, fun hn => by
    obtain ⟨b, o, e, hb, hc⟩ := h.2 hn
    exact ⟨b, o, e, hb, fun j u hu => (hk ⟨b, o + j, none⟩ hb).trans (hc j u hu)⟩⟩
theorem Rd.more (h : Rd w B s A n xs) (hB : B ≤ B') : Rd w B' s A n xs :=
  ⟨h.1, fun hn => by
    obtain ⟨b, o, e, hb, hc⟩ := h.2 hn
    exact ⟨b, o, e, by omega, hc⟩⟩
theorem Rd.below (h : Rd w B s A n xs) (hb : Below B w w') : Rd w' B s A n xs := h.keep fun _ hp => hb.cell hp
theorem Rd.alloc (h : Rd w B s A n xs) (hB : B ≤ w.heap.size) (o : Obj) : Rd (w.alloc o) B s A n xs := h.below ((Below.refl B w).alloc hB o)
theorem Rd.at1 (h : Rd w B 1 A n xs) {k : Nat} (hk : k < n) : ∃ b o u, A = some ⟨b, o, none⟩ ∧ b < B ∧ xs[k]? = some u ∧ w.cell? ⟨b, o + k, none⟩ = some u := by
  obtain ⟨b, o, e, hb, hc⟩ := h.2 (by omega)
  have hl : k < xs.length := by have := h.1; omega
  exact ⟨b, o, xs[k], e, hb, List.getElem?_eq_getElem hl, hc k _ (List.getElem?_eq_getElem hl)⟩
/-- 'x[k:m]', k ≤ m ≤ n ≤ cap. -/
theorem Rd.cut (h : Rd w B s A n xs) {k m cap : Nat} (hk : k ≤ m) (hm : m ≤ n) (hc : n ≤ cap) :
    Rd w B s (if cap = k then A else A.map (·.add (k * s))) (m - k) ((xs.drop (k * s)).take ((m - k) * s)) := by
  have hms : k * s + (m - k) * s ≤ n * s := by
    rw [← Nat.add_mul]; exact Nat.mul_le_mul_right _ (by omega)
  refine ⟨by rw [List.length_take, List.length_drop, h.1]; omega, fun hn => ?_⟩
  obtain ⟨b, o, rfl, hb, hcell⟩ := h.2 (by omega)
  rw [if_neg (by omega)]
  refine ⟨b, o + k * s, by simp [addPlain], hb, fun j u hu => ?_⟩
  rw [Nat.add_assoc]
  refine hcell _ u ?_
  rw [List.getElem?_take] at hu
  split at hu
  · rw [← hu, List.getElem?_drop]
  · cases hu
theorem Rd.cut1 (h : Rd w B 1 A n xs) {k m cap : Nat} (hk : k ≤ m) (hm : m ≤ n) (hc : n ≤ cap) :
    Rd w B 1 (if cap = k then A else A.map (fun x => x.add k)) (m - k) ((xs.drop k).take (m - k)) := by
  have := h.cut hk hm hc
  simpa using this
theorem Rd.ofOwn {base : Nat} {e : TypeId} {c : Nat} (h : w.ownsRow base e s (.slice A n c) n xs) : Rd w w.heap.size s A n xs := by
  refine ⟨h.1, fun hn => ?_⟩
  obtain ⟨g, cap, hv, _, hlt⟩ := h.form hn
  have hA : A = some ⟨g, 0, none⟩ := by injection hv
  subst hA
  refine ⟨g, 0, rfl, hlt, fun j u hu => ?_⟩
  have := h.cells (g := g) rfl j u hu
  rwa [addPlain] at this
end

/-! ### A row of the call's own -/
theorem ownForm {w : World} {base : Nat} {e : TypeId} {s : Nat} {v : Value} {n : Nat} {xs : List Value} (h : w.ownsRow base e s v n xs) : ∃ A c, v = .slice A n c ∧ n ≤ c := by
  rcases h.2 with ⟨rfl, rfl⟩ | ⟨g, cap, cur, rfl, _, _, hnc, _⟩
  · exact ⟨none, 0, rfl, Nat.le_refl _⟩
  · exact ⟨_, cap, rfl, hnc⟩
theorem ownBase {w : World} {base base' : Nat} {e : TypeId} {s : Nat} {v : Value} {n : Nat} {xs : List Value} (h : w.ownsRow base e s v n xs) (hb : base' ≤ base) : w.ownsRow base' e s v n xs := by
  refine ⟨h.1, ?_⟩
  rcases h.2 with h2 | ⟨g, cap, cur, hv, hg, r⟩
  · exact .inl h2
  · exact .inr ⟨g, cap, cur, hv, by omega, r⟩
/-- What is owned in a block below B stays owned while only blocks from B on turn. -/
theorem ownBelow {w w' : World} {base B : Nat} {e : TypeId} {s : Nat} {v : Value} {n : Nat} {xs : List Value} (h : w.ownsRow base e s v n xs) (hb : Below B w w') (hB : w.heap.size ≤ B) : w'.ownsRow base e s v n xs := by
  refine ⟨h.1, ?_⟩
  rcases h.2 with h2 | ⟨g, cap, cur, hv, hg, hh, r⟩
  · exact .inl h2
  · have hlt : g < w.heap.size := (Array.getElem?_eq_some_iff.1 hh).1
    exact .inr ⟨g, cap, cur, hv, hg, (hb.block g (by omega)).trans hh, r⟩

section
variable {P : Program} (w : World)
theorem run_append_of_none (base : Nat) (t ty e : TypeId) (i : TypeInfo) (s : Nat) (ht : P.underlying t = some (.slice e)) (hi : P.info? e = some i)
    (v : Value) (n : Nat) (xs : List Value) (hown : w.ownsRow base e s v n xs) (c : Nat) : (Builtin.append_ #[t, t] ty #[v, .slice none 0 c]).run P w = .ok v w := by
  rcases hown.2 with ⟨rfl, rfl⟩ | ⟨g, cap, cur, rfl, _, _, hnc, _⟩
  · simp [Builtin.append_, run_underlying ht, sizeOf, typeInfo, hi, Builtin.lenOf, Builtin.firstCells]
  · simp [Builtin.append_, run_underlying ht, sizeOf, typeInfo, hi, Builtin.lenOf, Builtin.firstCells, hnc, storeCells]

/-- 'out = append(out, x...)', out nil or the call's own, x whatever. -/
theorem run_app (base : Nat) (t ty e : TypeId) (i : TypeInfo) (z : Value) (s bytes : Nat) (ht : P.underlying t = some (.slice e)) (hi : P.info? e = some i) (hz : i.zero = some z)
    (hs : i.size = s) (hby : i.bytes = bytes) (hzs : z.cells.size = s) (hpos : 0 < s)
    (v : Value) (n : Nat) (xs : List Value) (hown : w.ownsRow base e s v n xs)
    (B : Nat) (A : Option Addr) (m c : Nat) (news : List Value) (hr : Rd w B s A m news) (h1 : ∀ u ∈ news, u.oneCell' = true)
    (h63 : n + m ≤ maxLen) (hbytes : (n + m) * bytes ≤ 140737488355328) (hbase : base ≤ w.heap.size) :
    ∃ A' c' w', (Builtin.append_ #[t, t] ty #[v, .slice A m c]).run P w = .ok (.slice A' (n + m) c') w' ∧ w'.ownsRow base e s (.slice A' (n + m) c') (n + m) (xs ++ news) ∧ w.grownBy w' v.ownBlock ∧
      ((Value.slice A' (n + m) c').ownBlock = v.ownBlock ∨ (Value.slice A' (n + m) c').ownBlock = some w.heap.size) := by
  by_cases hA : A = none
  · subst hA
    have hm : m = 0 := by
      rcases Nat.eq_zero_or_pos m with h0 | h0
      · exact h0
      · obtain ⟨b, o, h, _⟩ := hr.2 h0
        cases h
    subst hm
    have hn : news = [] := List.eq_nil_of_length_eq_zero (by simpa using hr.1)
    subst hn
    obtain ⟨A0, c0, rfl, hle⟩ := ownForm hown
    exact ⟨A0, c0, w, run_append_of_none w base t ty e i s ht hi _ n xs hown c, by simpa using hown, World.grownBy.refl w _, .inl rfl⟩
  · obtain ⟨ad, rfl⟩ : ∃ ad, A = some ad := by cases A with | none => exact absurd rfl hA | some a => exact ⟨a, rfl⟩
    have hcells : ∀ j u, news[j]? = some u → w.cell? (ad.add j) = some u := by
      intro j u hu
      rcases Nat.eq_zero_or_pos m with h0 | h0
      · subst h0
        have hn : news = [] := List.eq_nil_of_length_eq_zero (by simpa using hr.1)
        subst hn
        simp at hu
      · obtain ⟨b, o, h, _, hc⟩ := hr.2 h0
        injection h with h
        subst h
        rw [addPlain]
        exact hc j u hu
    obtain ⟨v', w', hrun, h2, h3, _, h5⟩ := run_append_own_at (P := P) w base t ty e i z s bytes ht hi hz hs hby hzs hpos v n xs hown ad m c news hr.1 hcells h1 h63 hbytes hbase
    obtain ⟨A', c', rfl, _⟩ := ownForm h2
    exact ⟨A', c', w', hrun, h2, h3, h5⟩

theorem wp_app {o : Oper} {a : Act} {K : Act → World → Prop} {Q : Exit → Act → World → Prop} (p x : Operand) (t : TypeId)
    (ho : o.op = .call { callee := .builtin .append, args := #[p, x], argTypes := #[t, t] })
    (base : Nat) (e : TypeId) (i : TypeInfo) (z : Value) (s bytes : Nat) (ht : P.underlying t = some (.slice e)) (hi : P.info? e = some i) (hz : i.zero = some z)
    (hs : i.size = s) (hby : i.bytes = bytes) (hzs : z.cells.size = s) (hpos : 0 < s)
    (v : Value) (n : Nat) (xs : List Value) (hv : a.eval p = v) (hown : w.ownsRow base e s v n xs)
    (B : Nat) (A : Option Addr) (m c : Nat) (news : List Value) (hx : a.eval x = .slice A m c) (hr : Rd w B s A m news) (h1 : ∀ u ∈ news, u.oneCell' = true)
    (h63 : n + m ≤ maxLen) (hbytes : (n + m) * bytes ≤ 140737488355328) (hbase : base ≤ w.heap.size)
    (h : ∀ A' c' w', w'.ownsRow base e s (.slice A' (n + m) c') (n + m) (xs ++ news) → w.grownBy w' v.ownBlock →
      ((Value.slice A' (n + m) c').ownBlock = v.ownBlock ∨ (Value.slice A' (n + m) c').ownBlock = some w.heap.size) → K (a.put o.dst (.slice A' (n + m) c')) w') : o.wp P a w K Q := by
  obtain ⟨A', c', w', hrun, h2, h3, h4⟩ := run_app (P := P) w base t o.type e i z s bytes ht hi hz hs hby hzs hpos v n xs hown B A m c news hr h1 h63 hbytes hbase
  unfold Oper.wp execOp
  simp only [ho, resolve, invoke, builtin, Sem.run_bind, Sem.run_pure, Result.andThen_ok, List.map_toArray, List.map_cons, List.map_nil, hv, hx, hrun]
  exact h A' c' w' h2 h3 h4

theorem wpList_app {ops : Array Oper} {rest : List Oper} {o : Oper} {a : Act} {Q : Exit → Act → World → Prop} (hgd : o.guard = none) (p x : Operand) (t : TypeId)
    (ho : o.op = .call { callee := .builtin .append, args := #[p, x], argTypes := #[t, t] })
    (base : Nat) (e : TypeId) (i : TypeInfo) (z : Value) (s bytes : Nat) (ht : P.underlying t = some (.slice e)) (hi : P.info? e = some i) (hz : i.zero = some z)
    (hs : i.size = s) (hby : i.bytes = bytes) (hzs : z.cells.size = s) (hpos : 0 < s)
    (v : Value) (n : Nat) (xs : List Value) (hv : a.eval p = v) (hown : w.ownsRow base e s v n xs)
    (B : Nat) (A : Option Addr) (m c : Nat) (news : List Value) (hx : a.eval x = .slice A m c) (hr : Rd w B s A m news) (h1 : ∀ u ∈ news, u.oneCell' = true)
    (h63 : n + m ≤ maxLen) (hbytes : (n + m) * bytes ≤ 140737488355328) (hbase : base ≤ w.heap.size)
    (h : ∀ A' c' w', w'.ownsRow base e s (.slice A' (n + m) c') (n + m) (xs ++ news) → w.grownBy w' v.ownBlock →
      ((Value.slice A' (n + m) c').ownBlock = v.ownBlock ∨ (Value.slice A' (n + m) c').ownBlock = some w.heap.size) → wpList P ops Q rest (a.put o.dst (.slice A' (n + m) c')) w') : wpList P ops Q (o :: rest) a w :=
  wpList_plain hgd fun _ hK => wp_app w p x t ho base e i z s bytes ht hi hz hs hby hzs hpos v n xs hv hown B A m c news hx hr h1 h63 hbytes hbase fun A' c' w' h2 h3 h4 => hK _ _ (h A' c' w' h2 h3 h4)
end

/-- Behind an append onto an own row: nothing below the row's base has turned. -/
theorem belowApp {base : Nat} {w0 w w' : World} {e : TypeId} {s : Nat} {v : Value} {n : Nat} {xs : List Value} (hb : Below base w0 w) (hown : w.ownsRow base e s v n xs) (hg : w.grownBy w' v.ownBlock) (hbase : base ≤ w.heap.size) : Below base w0 w' :=
  hb.grown hg hbase fun k hk => (hown.lt k hk).1

/-! ### Bytes -/
def bv (b : UInt8) : Value := .int .u8 (b.toNat : Int)
theorem bv_one (bs : List UInt8) : ∀ u ∈ bs.map bv, u.oneCell' = true := by
  intro u hu
  obtain ⟨_, _, rfl⟩ := List.mem_map.1 hu
  rfl
theorem u8_lt (b : UInt8) : b.toNat < 256 := UInt8.toNat_lt b
theorem bv_mk (n : Int) (h0 : 0 ≤ n) (h1 : n < 256) : Value.int .u8 n = bv (UInt8.ofNat n.toNat) := by
  unfold bv
  rw [UInt8.toNat_ofNat_of_lt' (by show n.toNat < 256; omega)]
  congr 1
  omega
abbrev strV (bs : List UInt8) : Value := .string ⟨bs.toArray⟩

section
variable {P : Program} (w : World)
theorem run_conv_str (src dst e : TypeId) (hs : P.underlying src = some (.slice e)) (he : P.underlying e = some (.int .u8)) (hd : P.underlying dst = some .string)
    (B : Nat) (A : Option Addr) (n c : Nat) (bs : List UInt8) (hr : Rd w B 1 A n (bs.map bv)) : (convert src dst (.slice A n c)).run P w = .ok (strV bs) w := by
  have hl : bs.length = n := by simpa using hr.len1
  rcases Nat.eq_zero_or_pos n with h0 | h0
  · subst h0
    obtain rfl : bs = [] := List.eq_nil_of_length_eq_zero hl
    rw [run_convert_bytes_string w src dst e A 0 c hs he hd]
    cases A with
    | none =>
      simp [Conv.bytesToString, strV, ByteArray.empty, ByteArray.emptyWithCapacity]
      rfl
    | some a =>
      have := run_bytesToString (P := P) w a 0 c [] (by simp [loadCells, loadCellsFrom])
      rw [this]
      rfl
  · obtain ⟨b, o, rfl, _, hc⟩ := hr.2 h0
    have h := run_convert_bytes_arg (P := P) w src e hs he b o n c (bs.map fun x => (x.toNat : Int)) (by simpa using hl)
      (fun i hi => by
        have := hc i (bv (bs[i]'(by omega))) (by simp [List.getElem?_eq_getElem (show i < bs.length by omega)])
        rw [this]
        simp [bv, List.getD, List.getElem?_eq_getElem (show i < bs.length by omega)]) dst hd
    rw [h]
    congr 2
    unfold strOfNums
    congr 1
    rw [List.map_map]
    have : ((fun n : Int => UInt8.ofNat n.toNat) ∘ fun x : UInt8 => (x.toNat : Int)) = id := by
      funext x
      simp
    rw [this, List.map_id]
end

/-! ### The frame of a law's proof -/
theorem trodAll_below {H : Type} {enc : TypeId × Value → H} {P : Program} (hl : laidOutB P = true) {W W' : World} (hb : Below W.heap.size W W') :
    ∀ {ts : List TypeId} {vs : List Value} {ds : List (DataW H)} {ps : List MemPlace}, ts.all (fun t => P.readableRec t && decide (t < P.types.size)) = true → DataW.TrodAll enc P W 0 (fun _ => true) true ts vs ds ps →
      (∀ x ∈ ps, x.block < W.heap.size) → ∀ sp : Nat → Bool, (∀ x ∈ ps, sp x.block = true) → DataW.TrodAll enc P W' 0 sp true ts vs ds ps
  | [], _, _, _, _, h, _, _, _ => by
    obtain ⟨rfl, rfl, rfl⟩ := trodAll_nil h
    exact trodAll_mk0
  | t :: ts, _, _, _, hts, h, hlt, sp, hsp => by
    obtain ⟨v, vs1, d, ds1, a, b, rfl, rfl, rfl, h1, h2⟩ := trodAll_cons h
    simp only [List.all_cons, Bool.and_eq_true, decide_eq_true_eq] at hts
    exact trodAll_cons_mk (WideElems.Trod_stays hl hts.1.1 hts.1.2 h1 (fun x hx => hb.same (hlt x (by simp [hx]))) (fun x hx => hsp x (by simp [hx])))
      (trodAll_below hl hb hts.2 h2 (fun x hx => hlt x (by simp [hx])) sp (fun x hx => hsp x (by simp [hx])))

/-- THE LAW's POST: the call has returned true and nothing that was there has turned. -/
theorem post_law {H : Type} {enc : TypeId × Value → H} {P : Program} {f : Func} {s : ChangeSpec} {apart fresh : Bool} {W W' : World} {args : Array Value} {ds : List (DataW H)} {before : List MemPlace} {tb : TypeId}
    (hl : laidOutB P = true) (hvars : s.vars = []) (hts : f.params.toList.all (fun t => P.readableRec t && decide (t < P.types.size)) = true)
    (hW : DataW.Whole enc P f.params.toList s.vars apart W args.toList ds [] before) (hb : Below W.heap.size W W')
    (hrt : f.resultTypes = #[tb]) (htb : P.underlying tb = some .bool)
    (hres : (s.fn H (ds ++ [])).results = [.lit (.bool true)]) (hargs : (s.fn H (ds ++ [])).args = ds) (hv : (s.fn H (ds ++ [])).vars = []) :
    s.post enc P f apart fresh false false W args (.bool true) W' := by
  have hlt : ∀ p ∈ before, p.block < W.heap.size := fun p hp => by simpa using hW.lt p hp
  have hW' := hW
  obtain ⟨p, q, hA, hV, rfl, _, _⟩ := hW
  rw [hvars] at hV
  obtain ⟨_, rfl⟩ := trodVars_none hV
  simp only [List.append_nil] at hlt hW' 
  refine ⟨ds, [], p, [], p, [], hW', ?_, ?_, ?_, hb.frame _, fun h => by cases h⟩
  · rw [hres, hrt]
    exact trodAll_mk1 (shut_bool htb _)
  · rw [hargs]
    exact trodAll_below hl hb hts hA hlt _ (fun x hx => by simpa using hlt x hx)
  · rw [hv, hvars]
    rfl

end Go.Proofs.Ytfmghkplafploaa

set_option linter.unusedVariables false
namespace Go.Proofs.Ytfmghkplafploaa
open Go Go.RowKit

/-- Block g is just the cells cs of element type t, none frozen. -/
def Bk (w : World) (g : Nat) (t : TypeId) (cs : List Value) : Prop := w.heap[g]? = some (.cells cs.toArray t (0, 0))

section
variable {w w' : World} {g : Nat} {t : TypeId} {cs : List Value}
theorem Bk.lt (h : Bk w g t cs) : g < w.heap.size := (Array.getElem?_eq_some_iff.1 h).1
theorem Bk.cell (h : Bk w g t cs) (i : Nat) : w.cell? ⟨g, i, none⟩ = cs[i]? := by
  rw [cell_of_row w g i cs.toArray t (0, 0) h]
  simp
theorem Bk.frozen (h : Bk w g t cs) (i : Nat) : w.frozen? ⟨g, i, none⟩ = false := by
  unfold Bk at h
  simp [World.frozen?, h]
theorem Bk.new (w : World) (t : TypeId) (cs : List Value) : Bk (w.alloc (.cells cs.toArray t)) w.heap.size t cs := heap_alloc_new w _
theorem Bk.drew (h : Bk w g t cs) : Bk w.drew g t cs := h
theorem Bk.alloc (h : Bk w g t cs) (o : Obj) : Bk (w.alloc o) g t cs := (Below.heap_alloc w o g h.lt).trans h
theorem Bk.set_ (h : Bk w g t cs) (i : Nat) (u : Value) : Bk (w.setCell ⟨g, i, none⟩ u) g t (cs.set i u) := by
  unfold Bk at h ⊢
  simp [World.setCell, Array.getElem?_modify, h]
theorem Bk.far (h : Bk w g t cs) {p : Addr} (hp : g ≠ p.block) (u : Value) : Bk (w.setCell p u) g t cs := (Below.heap_setCell w p u g hp).trans h
theorem Bk.below {B : Nat} (h : Bk w g t cs) (hb : Below B w w') (hg : g < B) : Bk w' g t cs := (hb.block g hg).trans h
theorem Bk.later (h : Bk w g t cs) (hb : Below w.heap.size w w') : Bk w' g t cs := h.below hb h.lt
/-- The first n cells, as a slice that is read. -/
theorem Bk.rd (h : Bk w g t cs) (n : Nat) (hn : n ≤ cs.length) : Rd w w.heap.size 1 (some ⟨g, 0, none⟩) n (cs.take n) :=
  ⟨by rw [List.length_take]; omega, fun _ => ⟨g, 0, rfl, h.lt, fun j u hu => by
    rw [Nat.zero_add, h.cell]
    rw [List.getElem?_take] at hu
    split at hu
    · exact hu
    · cases hu⟩⟩
end

section
variable {P : Program} (w : World)
theorem wpList_make_bk {ops : Array Oper} {rest : List Oper} {o : Oper} {a : Act} {Q : Exit → Act → World → Prop}
    (hg : o.guard = none) (l c : Operand) (t : TypeId) (hop : o.op = Op.makeSlice t l c)
    (e : TypeId) (i : TypeInfo) (z : Value) (h1 : P.underlying t = some (.slice e)) (h2 : P.info? e = some i) (h3 : i.zero = some z) (h4 : i.size = 1) (hz : z.cells = #[z])
    (kl kc : IntKind) (L C : Int) (m n : Nat) (hl : a.eval l = .int kl L) (hc : a.eval c = .int kc C) (hL : L = (m : Int)) (hC : C = (n : Int)) (hmn : m ≤ n) (b2 : i.bytes * n ≤ 281474976710656) (b3 : n ≤ maxLen)
    (hK : ∀ w', Bk w' w.heap.size e (List.replicate n z) → Below w.heap.size w w' → w'.heap.size = w.heap.size + 1 → wpList P ops Q rest (a.put o.dst (.slice (some ⟨w.heap.size, 0, none⟩) m n)) w') :
    wpList P ops Q (o :: rest) a w := by
  refine wpList_plain hg fun K hK' => ?_
  subst hL hC
  have hb' : (i.bytes : Int) * (n : Int) ≤ 281474976710656 := by
    have h : ((i.bytes * n : Nat) : Int) ≤ 281474976710656 := by omega
    rwa [Int.natCast_mul] at h
  have hr := run_make (P := P) w t e i z h1 h2 h3 kl kc m n (by omega) (by omega) hb' (by simp only [maxLen] at b3; omega)
  simp only [Int.toNat_natCast, h4, Nat.mul_one, hz] at hr
  have hcs : madeCells #[z] n = (List.replicate n z).toArray := by
    rw [← toList_madeCells_one]
  rw [hcs] at hr
  unfold Oper.wp
  simp [execOp, hop, hl, hc, hr, Result.andThen]
  have := hK (w.alloc (.cells (List.replicate n z).toArray e)) (Bk.new w e _) ((Below.refl _ _).alloc (Nat.le_refl _) _) (by simp)
  simp only [List.toArray_replicate] at this
  exact hK' _ _ this

theorem run_app_bk (t ty e : TypeId) (i : TypeInfo) (ht : P.underlying t = some (.slice e)) (hi : P.info? e = some i) (hs : i.size = 1)
    (g k cap : Nat) (cs : List Value) (hg : Bk w g e cs) (hcap : cs.length = cap)
    (B : Nat) (A : Option Addr) (m c : Nat) (news : List Value) (hr : Rd w B 1 A m news) (h1 : ∀ u ∈ news, u.oneCell' = true) (hroom : k + m ≤ cap) :
    ∃ w', (Builtin.append_ #[t, t] ty #[.slice (some ⟨g, 0, none⟩) k cap, .slice A m c]).run P w = .ok (.slice (some ⟨g, 0, none⟩) (k + m) cap) w' ∧ Bk w' g e (cs.take k ++ news ++ cs.drop (k + m)) ∧ w.grownBy w' (some g) ∧ w'.heap.size = w.heap.size := by
  have hm : news.length = m := hr.len1
  by_cases h0 : m = 0
  · subst h0
    have hn : news = [] := List.eq_nil_of_length_eq_zero hm
    subst hn
    refine ⟨w, ?_, by simpa [List.take_append_drop] using hg, World.grownBy.refl w _, rfl⟩
    cases A with
    | none =>
      simp [Builtin.append_, run_underlying ht, sizeOf, typeInfo, hi, Builtin.lenOf, Builtin.firstCells, storeCells, show k ≤ cap from by omega]
    | some a =>
      simp [Builtin.append_, run_underlying ht, sizeOf, typeInfo, hi, Builtin.lenOf, Builtin.firstCells, loadCells, loadCellsFrom, storeCells, show k ≤ cap from by omega]
  · obtain ⟨b, o, rfl, hbB, hc⟩ := hr.2 (by omega)
    have hrun := run_append_room (P := P) w t ty e i ht hi g k cap cs.toArray hg ⟨b, o, none⟩ m c news (by rw [hs]; omega) (fun j u hu => by rw [addPlain]; exact hc j u hu) h1 hroom (by rw [hs]; simp; omega)
    rw [hs, Nat.mul_one, hm] at hrun
    refine ⟨_, hrun, ?_, ⟨rfl, rfl, rfl, by simp, fun j _ hne => setRow_other w g j _ (fun e => hne (by rw [e]))⟩, by simp⟩
    unfold Bk
    rw [setRow_heap w g cs.toArray _ e (0, 0) hg]

theorem wpList_app_bk {ops : Array Oper} {rest : List Oper} {o : Oper} {a : Act} {Q : Exit → Act → World → Prop} (hgd : o.guard = none) (p x : Operand) (t : TypeId)
    (ho : o.op = .call { callee := .builtin .append, args := #[p, x], argTypes := #[t, t] })
    (e : TypeId) (i : TypeInfo) (ht : P.underlying t = some (.slice e)) (hi : P.info? e = some i) (hs : i.size = 1)
    (g k cap : Nat) (cs : List Value) (hv : a.eval p = .slice (some ⟨g, 0, none⟩) k cap) (hg : Bk w g e cs) (hcap : cs.length = cap)
    (B : Nat) (A : Option Addr) (m c : Nat) (news : List Value) (hx : a.eval x = .slice A m c) (hr : Rd w B 1 A m news) (h1 : ∀ u ∈ news, u.oneCell' = true) (hroom : k + m ≤ cap)
    (h : ∀ w', Bk w' g e (cs.take k ++ news ++ cs.drop (k + m)) → w.grownBy w' (some g) → w'.heap.size = w.heap.size → wpList P ops Q rest (a.put o.dst (.slice (some ⟨g, 0, none⟩) (k + m) cap)) w') : wpList P ops Q (o :: rest) a w := by
  refine wpList_plain hgd fun K hK => ?_
  obtain ⟨w', hrun, h2, h3, h4⟩ := run_app_bk (P := P) w t o.type e i ht hi hs g k cap cs hg hcap B A m c news hr h1 hroom
  unfold Oper.wp execOp
  simp only [ho, resolve, invoke, builtin, Sem.run_bind, Sem.run_pure, Result.andThen_ok, List.map_toArray, List.map_cons, List.map_nil, hv, hx, hrun]
  exact hK _ _ (h w' h2 h3 h4)
end
end Go.Proofs.Ytfmghkplafploaa

set_option linter.unusedVariables false
namespace Go.Proofs.Ytfmghkplafploaa
open Go Go.RowKit

/-- From w to w' only blocks of which G is so have turned, and new ones have come. -/
structure Turn (G : Nat → Prop) (w w' : World) : Prop where
  os : w'.os = w.os
  tape : w'.tape = w.tape
  output : w'.output = w.output
  size : w.heap.size ≤ w'.heap.size
  block : ∀ k, k < w.heap.size → ¬ G k → w'.heap[k]? = w.heap[k]?

theorem belowDrews {B : Nat} {a w : World} (h : Below B a w) (n : Nat) : Below B a (w.drewN n) := ⟨h.os, h.tape, h.output, h.size, h.block⟩
section
variable {G G' : Nat → Prop} {w w' a b c : World}
theorem Turn.refl (G : Nat → Prop) (w : World) : Turn G w w := ⟨rfl, rfl, rfl, Nat.le_refl _, fun _ _ _ => rfl⟩
theorem Turn.then_ (h : Turn G a b) (k : Turn G' b c) (hs : ∀ k, k < a.heap.size → G' k → G k) : Turn G a c :=
  ⟨k.os.trans h.os, k.tape.trans h.tape, k.output.trans h.output, Nat.le_trans h.size k.size, fun i hi hn => (k.block i (Nat.lt_of_lt_of_le hi h.size) fun hg => hn (hs i hi hg)).trans (h.block i hi hn)⟩
theorem Turn.trans (h : Turn G a b) (k : Turn G b c) : Turn G a c := h.then_ k fun _ _ h => h
theorem Turn.mono (h : Turn G w w') (hs : ∀ k, k < w.heap.size → G k → G' k) : Turn G' w w' :=
  ⟨h.os, h.tape, h.output, h.size, fun k hk hn => h.block k hk fun hg => hn (hs k hk hg)⟩
theorem Turn.ofBelow (h : Below w.heap.size w w') : Turn G w w' := ⟨h.os, h.tape, h.output, h.size, fun k hk _ => h.block k hk⟩
theorem Turn.ofBelowB {B : Nat} (h : Below B w w') (hs : ∀ k, B ≤ k → k < w.heap.size → G k) : Turn G w w' :=
  ⟨h.os, h.tape, h.output, h.size, fun k hk hn => h.block k (by
    rcases Nat.lt_or_ge k B with hb | hb
    · exact hb
    · exact absurd (hs k hb hk) hn)⟩
theorem Turn.below {B : Nat} (h : Turn G w w') (hB : ∀ k, k < w.heap.size → G k → B ≤ k) (hle : B ≤ w.heap.size) : Below B w w' :=
  ⟨h.os, h.tape, h.output, h.size, fun k hk => h.block k (by omega) fun hg => by have := hB k (by omega) hg; omega⟩
theorem Turn.ofGrown {row : Option Nat} (h : w.grownBy w' row) (hs : ∀ k, row = some k → G k) : Turn G w w' :=
  ⟨h.os, h.tape, h.output, h.size, fun k hk hn => h.block k hk fun e => hn (hs k e.symm)⟩
theorem Turn.alloc (h : Turn G w w') (o : Obj) : Turn G w (w'.alloc o) :=
  h.then_ (Turn.ofBelow (G := G) ((Below.refl _ _).alloc (Nat.le_refl _) o)) fun _ _ h => h
theorem Turn.setCell (h : Turn G w w') {p : Addr} (hg : p.block < w.heap.size → G p.block) (v : Value) : Turn G w (w'.setCell p v) :=
  ⟨h.os, h.tape, h.output, by simpa using h.size, fun k hk hn => (Below.heap_setCell w' p v k (fun e => hn (by subst e; exact hg hk))).trans (h.block k hk hn)⟩
theorem Turn.drew (h : Turn G w w') : Turn G w w'.drew := ⟨h.os, h.tape, h.output, h.size, h.block⟩
theorem Turn.cell (h : Turn G w w') {p : Addr} (hlt : p.block < w.heap.size) (hn : ¬ G p.block) : w'.cell? p = w.cell? p := World.cell?_of_block (h.block _ hlt hn)
theorem Turn.bk (h : Turn G w w') {g : Nat} {t : TypeId} {cs : List Value} (hb : Bk w g t cs) (hn : ¬ G g) : Bk w' g t cs := (h.block g hb.lt hn).trans hb
theorem Turn.rd (h : Turn G w w') {B s n : Nat} {A : Option Addr} {xs : List Value} (hr : Rd w B s A n xs) (hB : B ≤ w.heap.size) (hn : ∀ k, k < B → ¬ G k) : Rd w' B s A n xs :=
  hr.keep fun p hp => h.cell (by omega) (hn _ hp)
theorem Turn.own (h : Turn G w w') {base s n : Nat} {e : TypeId} {v : Value} {xs : List Value} (ho : w.ownsRow base e s v n xs) (hn : ∀ k, v.ownBlock = some k → ¬ G k) : w'.ownsRow base e s v n xs := by
  refine ⟨ho.1, ?_⟩
  rcases ho.2 with h0 | ⟨g, cap, cur, rfl, hbg, hg, hr⟩
  · exact .inl h0
  · refine .inr ⟨g, cap, cur, rfl, hbg, ?_, hr⟩
    rw [h.block g (Array.getElem?_eq_some_iff.1 hg).1 (hn g rfl)]
    exact hg
end
end Go.Proofs.Ytfmghkplafploaa

set_option linter.unusedVariables false
set_option linter.unusedSimpArgs false
namespace Go.Proofs.Ytfmghkplafploaa
open Go Go.RowKit

/-- A term: is it a variable? its number. -/
abbrev Tm := Bool × UInt32
abbrev AtL := UInt32 × List Tm
abbrev Li := Bool × AtL
abbrev Cl := AtL × List Li
abbrev nv (x : UInt32) : Value := .int .u32 (x.toNat : Int)
theorem n32_lt (x : UInt32) : x.toNat < 4294967296 := UInt32.toNat_lt x
theorem nv_one (l : List UInt32) : ∀ u ∈ l.map nv, u.oneCell' = true := by
  intro u hu
  obtain ⟨_, _, rfl⟩ := List.mem_map.1 hu
  rfl
def tmC (t : Tm) : List Value := [.bool t.1, nv t.2]
def tmCs (l : List Tm) : List Value := l.flatMap tmC
theorem tmCs_cons (t : Tm) (l : List Tm) : tmCs (t :: l) = .bool t.1 :: nv t.2 :: tmCs l := rfl
theorem tmCs_len (l : List Tm) : (tmCs l).length = l.length * 2 := by
  induction l with
  | nil => rfl
  | cons t l ih => rw [tmCs_cons, List.length_cons, List.length_cons, ih, List.length_cons]; omega
theorem tmCs_at {l : List Tm} {i : Nat} {t : Tm} (h : l[i]? = some t) : (tmCs l)[i * 2]? = some (.bool t.1) ∧ (tmCs l)[i * 2 + 1]? = some (nv t.2) := by
  induction l generalizing i with
  | nil => simp at h
  | cons x l ih =>
    rw [tmCs_cons]
    cases i with
    | zero =>
      simp only [List.getElem?_cons_zero, Option.some.injEq] at h
      subst h
      exact ⟨rfl, rfl⟩
    | succ i =>
      rw [List.getElem?_cons_succ] at h
      have := ih h
      rw [show (i + 1) * 2 = i * 2 + 1 + 1 by omega, List.getElem?_cons_succ, List.getElem?_cons_succ, show i * 2 + 1 + 1 + 1 = (i * 2 + 1) + 1 + 1 by omega, List.getElem?_cons_succ, List.getElem?_cons_succ]
      exact this
section
variable {w w' : World} {B : Nat} {A : Option Addr} {n : Nat}
/-- A slice of terms that is read. -/
abbrev RdT (w : World) (B : Nat) (A : Option Addr) (n : Nat) (l : List Tm) : Prop := Rd w B 2 A n (tmCs l)
abbrev RdU (w : World) (B : Nat) (A : Option Addr) (n : Nat) (l : List UInt32) : Prop := Rd w B 1 A n (l.map nv)
theorem rdT_len {l : List Tm} (h : RdT w B A n l) : l.length = n := by
  have := h.1
  rw [tmCs_len] at this
  omega
theorem rdU_len {l : List UInt32} (h : RdU w B A n l) : l.length = n := by simpa using h.len1
theorem rdT_at {l : List Tm} (h : RdT w B A n l) {i : Nat} (hi : i < n) :
    ∃ b o t, A = some ⟨b, o, none⟩ ∧ b < B ∧ l[i]? = some t ∧ w.cell? ⟨b, o + i * 2, none⟩ = some (.bool t.1) ∧ w.cell? ⟨b, o + i * 2 + 1, none⟩ = some (nv t.2) := by
  obtain ⟨b, o, e, hb, hc⟩ := h.2 (by omega)
  have hl := rdT_len h
  have ht : l[i]? = some (l[i]'(by omega)) := List.getElem?_eq_getElem _
  have h2 := tmCs_at ht
  exact ⟨b, o, _, e, hb, ht, hc _ _ h2.1, hc _ _ h2.2⟩
theorem rdU_at {l : List UInt32} (h : RdU w B A n l) {i : Nat} (hi : i < n) :
    ∃ b o t, A = some ⟨b, o, none⟩ ∧ b < B ∧ l[i]? = some t ∧ w.cell? ⟨b, o + i, none⟩ = some (nv t) := by
  obtain ⟨b, o, u, e, hb, hu, hc⟩ := h.at1 hi
  have hl := rdU_len h
  have ht : l[i]? = some (l[i]'(by omega)) := List.getElem?_eq_getElem _
  rw [List.getElem?_map, ht] at hu
  simp only [Option.map_some, Option.some.injEq] at hu
  subst hu
  exact ⟨b, o, _, e, hb, ht, hc⟩
end

/-! ### What the document says -/
def mayA (a : AtL) : Bool := a.2.all (fun t => !t.1 || decide (t.2.toNat < 16)) && decide (a.2.length ≤ 6)
def mayC (c : Cl) : Bool := c.2.all (fun l => mayA l.2) && mayA c.1 && decide (c.2.length ≤ 8)
theorem all_at {α : Type} {l : List α} {f : α → Bool} {i : Nat} {x : α} (h : l[i]? = some x) (hx : f x = false) : l.all f = false := by
  rw [List.all_eq_false]
  exact ⟨x, List.mem_of_getElem? h, by simp [hx]⟩
theorem all_upto {α : Type} {l : List α} {f : α → Bool} {i : Nat} {x : α} (h : l[i]? = some x) (h0 : (l.take i).all f = true) (hx : f x = true) : (l.take (i + 1)).all f = true := by
  rw [List.take_add_one, h]
  simp [h0, hx]
theorem all_whole {α : Type} {l : List α} {f : α → Bool} {i : Nat} (hi : l.length ≤ i) (h0 : (l.take i).all f = true) : l.all f = true := by
  rwa [List.take_of_length_le hi] at h0
end Go.Proofs.Ytfmghkplafploaa

set_option linter.unusedVariables false
set_option linter.unusedSimpArgs false
namespace Go.Proofs.Ytfmghkplafploaa
open Go Go.RowKit

theorem take_eq {α : Type} {a b : List α} {i : Nat} {x y : α} (h1 : a[i]? = some x) (h2 : b[i]? = some y) (h : a.take i = b.take i) (he : x = y) : a.take (i + 1) = b.take (i + 1) := by
  rw [List.take_add_one, List.take_add_one, h1, h2, h, he]
theorem all_eq {α : Type} {a b : List α} {n : Nat} (ha : a.length = n) (hb : b.length = n) (h : a.take n = b.take n) : a = b := by
  rwa [List.take_of_length_le (by omega), List.take_of_length_le (by omega)] at h
theorem u32ne {x y : UInt32} (h : x ≠ y) : ((x.toNat : Int) != (y.toNat : Int)) = true := by
  have : x.toNat ≠ y.toNat := fun e => h (UInt32.toNat_inj.1 e)
  simp; omega
theorem u32ne' {x y : UInt32} (h : x ≠ y) : ((x.toNat : Int) == (y.toNat : Int)) = false := by
  have : x.toNat ≠ y.toNat := fun e => h (UInt32.toNat_inj.1 e)
  simp; omega
theorem belowDrewQ {B : Nat} {a w : World} (h : Below B a w) (n : Nat) : Below B a (w.drewN n) := ⟨h.os, h.tape, h.output, h.size, h.block⟩
theorem below2 (w : World) (x y : Obj) : Below w.heap.size w ((w.alloc x).alloc y) := ((Below.refl _ _).alloc (Nat.le_refl _) x).alloc (by simp) y
theorem Bk.second (w : World) (x : Obj) (t : TypeId) (cs : List Value) : Bk ((w.alloc x).alloc (.cells cs.toArray t)) (w.heap.size + 1) t cs := by
  have h := Bk.new (w.alloc x) t cs
  simpa using h
abbrev SlA := Option Addr × Nat × Nat
abbrev SlA.val (r : SlA) : Value := .slice r.1 r.2.1 r.2.2
def liC (z : Li × SlA) : List Value := [.bool z.1.1, nv z.1.2.1, z.2.val]
theorem flat_at {α β : Type} (f : α → List β) (k : Nat) (hf : ∀ x, (f x).length = k) {l : List α} {i : Nat} {x : α} (h : l[i]? = some x) (j : Nat) (hj : j < k) : (l.flatMap f)[i * k + j]? = (f x)[j]? := by
  induction l generalizing i with
  | nil => simp at h
  | cons y l ih =>
    rw [List.flatMap_cons]
    cases i with
    | zero =>
      simp only [List.getElem?_cons_zero, Option.some.injEq] at h
      subst h
      rw [Nat.zero_mul, Nat.zero_add, List.getElem?_append_left (by rw [hf]; exact hj)]
    | succ i =>
      rw [List.getElem?_cons_succ] at h
      have e : (i + 1) * k + j = (f y).length + (i * k + j) := by rw [hf, Nat.add_mul]; omega
      rw [e, List.getElem?_append_right (by omega), Nat.add_sub_cancel_left]
      exact ih h
/-- A slice of conditions that is read: each one's slice of terms, and what it says. -/
structure RdL (w : World) (B : Nat) (A : Option Addr) (n : Nat) (R : List SlA) (L : List Li) : Prop where
  lenR : R.length = n
  lenL : L.length = n
  top : Rd w B 3 A n ((L.zip R).flatMap liC)
  row : ∀ (i : Nat) (r : SlA) (x : Li), R[i]? = some r → L[i]? = some x → RdT w B r.1 r.2.1 x.2.2
section
variable {w w' : World} {B n : Nat} {A : Option Addr} {R : List SlA} {L : List Li}
theorem RdL.below (h : RdL w B A n R L) (hb : Below B w w') : RdL w' B A n R L :=
  ⟨h.lenR, h.lenL, h.top.below hb, fun i r x h1 h2 => (h.row i r x h1 h2).below hb⟩
theorem RdL.more {B' : Nat} (h : RdL w B A n R L) (hB : B ≤ B') : RdL w B' A n R L :=
  ⟨h.lenR, h.lenL, h.top.more hB, fun i r x h1 h2 => (h.row i r x h1 h2).more hB⟩
theorem RdL.at_ (h : RdL w B A n R L) {i : Nat} (hi : i < n) :
    ∃ b o g p l Ai ni ci, A = some ⟨b, o, none⟩ ∧ b < B ∧ L[i]? = some (g, p, l) ∧ w.cell? ⟨b, o + i * 3, none⟩ = some (.bool g) ∧ w.cell? ⟨b, o + i * 3 + 1, none⟩ = some (nv p) ∧ w.cell? ⟨b, o + i * 3 + 2, none⟩ = some (.slice Ai ni ci) ∧ RdT w B Ai ni l := by
  obtain ⟨b, o, e, hb, hc⟩ := h.top.2 (by omega)
  have h1 : R[i]? = some (R[i]'(by rw [h.lenR]; exact hi)) := List.getElem?_eq_getElem _
  have h2 : L[i]? = some (L[i]'(by rw [h.lenL]; exact hi)) := List.getElem?_eq_getElem _
  generalize R[i]'(by rw [h.lenR]; exact hi) = r at h1
  generalize L[i]'(by rw [h.lenL]; exact hi) = x at h2
  obtain ⟨Ai, ni, ci⟩ := r
  obtain ⟨g, p, l⟩ := x
  have hz : (L.zip R)[i]? = some ((g, p, l), (Ai, ni, ci)) := by
    rw [List.getElem?_zip_eq_some]
    exact ⟨h2, h1⟩
  have hl : ∀ x : Li × SlA, (liC x).length = 3 := fun _ => rfl
  have f0 := flat_at liC 3 hl hz 0 (by omega)
  have f1 := flat_at liC 3 hl hz 1 (by omega)
  have f2 := flat_at liC 3 hl hz 2 (by omega)
  exact ⟨b, o, g, p, l, Ai, ni, ci, e, hb, h2, hc _ _ f0, hc _ _ f1, hc _ _ f2, h.row i _ _ h1 h2⟩
end
theorem box3 (w : World) (p : UInt32) (a b : Value) (t : TypeId) : ∃ W, W = w.alloc (.cells #[nv p, a, b] t) ∧ Bk W w.heap.size t [nv p, a, b] ∧ Below w.heap.size w W := ⟨_, rfl, Bk.new w _ _, (Below.refl _ _).alloc (Nat.le_refl _) _⟩
theorem Bk.read {w w' : World} {g : Nat} {t : TypeId} {cs : List Value} (h : Bk w g t cs) (hb : Below w.heap.size w w') (i : Nat) {v : Value} (hv : cs[i]? = some v) : w'.cell? ⟨g, i, none⟩ = some v := by
  rw [(h.later hb).cell, hv]
end Go.Proofs.Ytfmghkplafploaa

set_option linter.unusedVariables false
set_option linter.unusedSimpArgs false
namespace Go.Proofs.Ytfmghkplafploaa
open Go Go.RowKit

def inL (l : List Tm) (v : UInt32) : Bool := l.any fun t => t.1 && t.2 == v
def heldV (L : List Li) (v : UInt32) : Bool := L.any fun x => !x.1 && inL x.2.2 v
def heldL (L : List Li) (l : List Tm) : Bool := l.all fun t => !t.1 || heldV L t.2
def safeC (c : Cl) : Bool := heldL c.2 c.1.2 && c.2.all fun x => !x.1 || heldL c.2 x.2.2
end Go.Proofs.Ytfmghkplafploaa

set_option linter.unusedVariables false
set_option linter.unusedSimpArgs false
namespace Go.Proofs.Ytfmghkplafploaa
open Go Go.RowKit

abbrev ClA := SlA × SlA × List SlA
def clC (z : Cl × ClA) : List Value := [nv z.1.1.1, z.2.1.val, z.2.2.1.val]
/-- A slice of clauses that is read. -/
structure RdCs (w : World) (B : Nat) (A : Option Addr) (n : Nat) (Q : List ClA) (C : List Cl) : Prop where
  lenQ : Q.length = n
  lenC : C.length = n
  top : Rd w B 3 A n ((C.zip Q).flatMap clC)
  row : ∀ (i : Nat) (q : ClA) (x : Cl), Q[i]? = some q → C[i]? = some x → RdT w B q.1.1 q.1.2.1 x.1.2 ∧ RdL w B q.2.1.1 q.2.1.2.1 q.2.2 x.2
section
variable {w w' : World} {B n : Nat} {A : Option Addr} {Q : List ClA} {C : List Cl}
theorem RdCs.below (h : RdCs w B A n Q C) (hb : Below B w w') : RdCs w' B A n Q C :=
  ⟨h.lenQ, h.lenC, h.top.below hb, fun i q x h1 h2 => ⟨(h.row i q x h1 h2).1.below hb, (h.row i q x h1 h2).2.below hb⟩⟩
theorem RdCs.more {B' : Nat} (h : RdCs w B A n Q C) (hB : B ≤ B') : RdCs w B' A n Q C :=
  ⟨h.lenQ, h.lenC, h.top.more hB, fun i q x h1 h2 => ⟨(h.row i q x h1 h2).1.more hB, (h.row i q x h1 h2).2.more hB⟩⟩
theorem RdCs.at_ (h : RdCs w B A n Q C) {i : Nat} (hi : i < n) :
    ∃ b o p l L A0 n0 c0 A1 n1 c1 R, A = some ⟨b, o, none⟩ ∧ b < B ∧ C[i]? = some ((p, l), L) ∧ Q[i]? = some ((A0, n0, c0), (A1, n1, c1), R) ∧ w.cell? ⟨b, o + i * 3, none⟩ = some (nv p) ∧ w.cell? ⟨b, o + i * 3 + 1, none⟩ = some (.slice A0 n0 c0) ∧ w.cell? ⟨b, o + i * 3 + 2, none⟩ = some (.slice A1 n1 c1) ∧ RdT w B A0 n0 l ∧ RdL w B A1 n1 R L := by
  obtain ⟨b, o, e, hb, hc⟩ := h.top.2 (by omega)
  have h1 : Q[i]? = some (Q[i]'(by rw [h.lenQ]; exact hi)) := List.getElem?_eq_getElem _
  have h2 : C[i]? = some (C[i]'(by rw [h.lenC]; exact hi)) := List.getElem?_eq_getElem _
  generalize Q[i]'(by rw [h.lenQ]; exact hi) = q at h1
  generalize C[i]'(by rw [h.lenC]; exact hi) = x at h2
  obtain ⟨⟨A0, n0, c0⟩, ⟨A1, n1, c1⟩, R⟩ := q
  obtain ⟨⟨p, l⟩, L⟩ := x
  have hz : (C.zip Q)[i]? = some (((p, l), L), ((A0, n0, c0), (A1, n1, c1), R)) := by
    rw [List.getElem?_zip_eq_some]
    exact ⟨h2, h1⟩
  have hl : ∀ x : Cl × ClA, (clC x).length = 3 := fun _ => rfl
  have f0 := flat_at clC 3 hl hz 0 (by omega)
  have f1 := flat_at clC 3 hl hz 1 (by omega)
  have f2 := flat_at clC 3 hl hz 2 (by omega)
  have hr := h.row i _ _ h1 h2
  exact ⟨b, o, p, l, L, A0, n0, c0, A1, n1, c1, R, e, hb, h2, h1, hc _ _ f0, hc _ _ f1, hc _ _ f2, hr.1, hr.2⟩
end
/-! ### Rows of atoms of the call's own -/
abbrev AtR := UInt32 × SlA
def atC (x : AtR) : List Value := [nv x.1, x.2.val]
theorem atC_len (X : List AtR) : (X.flatMap atC).length = X.length * 2 := by
  induction X with
  | nil => rfl
  | cons x X ih => rw [List.flatMap_cons, List.length_append, ih, List.length_cons]; simp [atC]; omega
theorem atC_one (X : List AtR) : ∀ u ∈ X.flatMap atC, u.oneCell' = true := by
  intro u hu
  obtain ⟨x, _, hx⟩ := List.mem_flatMap.1 hu
  simp only [atC, List.mem_cons, List.not_mem_nil, or_false] at hx
  rcases hx with rfl | rfl <;> rfl
def OwAt (w : World) (base : Nat) (A : Option Addr) (c n : Nat) (X : List AtR) : Prop := w.ownsRow base 28 2 (.slice A n c) n (X.flatMap atC)
theorem OwAt.len {w : World} {base c n : Nat} {A : Option Addr} {X : List AtR} (h : OwAt w base A c n X) : X.length = n := by
  have := h.1
  rw [atC_len] at this
  omega
theorem OwAt.rd {w : World} {base c n : Nat} {A : Option Addr} {X : List AtR} (h : OwAt w base A c n X) : Rd w w.heap.size 2 A n (X.flatMap atC) := Rd.ofOwn h
theorem OwAt.later {w w' : World} {base c n : Nat} {A : Option Addr} {X : List AtR} (h : OwAt w base A c n X) (hb : Below w.heap.size w w') : OwAt w' base A c n X := ownBelow h hb (Nat.le_refl _)
theorem OwAt.one (w : World) (p : UInt32) (A : Option Addr) (n c : Nat) : OwAt (w.alloc (.cells #[nv p, .slice A n c] 28)) w.heap.size (some ⟨w.heap.size, 0, none⟩) 1 1 [(p, A, n, c)] := World.ownsRow_lit w #[nv p, .slice A n c] 1 (Nat.le_refl _) (by simp [maxLen]) rfl
theorem OwAt.mono {w : World} {base base' c n : Nat} {A : Option Addr} {X : List AtR} (h : OwAt w base A c n X) (hb : base' ≤ base) : OwAt w base' A c n X := by
  refine ⟨h.1, ?_⟩
  rcases h.2 with h2 | ⟨g, cap, cur, hv, hg, r⟩
  · exact .inl h2
  · exact .inr ⟨g, cap, cur, hv, Nat.le_trans hb hg, r⟩
theorem ownBlk_slice (A : Option Addr) (n c : Nat) : (Value.slice A n c).ownBlock = A.map (·.block) := by cases A <;> rfl
theorem OwAt.low {w : World} {base c n : Nat} {A : Option Addr} {X : List AtR} (h : OwAt w base A c n X) {k : Nat} (hk : A.map (·.block) = some k) : base ≤ k ∧ k < w.heap.size := World.ownsRow.lt h k (by rw [ownBlk_slice]; exact hk)
theorem atInfo : (Try.prog.info? 28).map (fun i => (i.zero, i.size, i.bytes)) = some (some (.agg #[.int .u32 0, .slice none 0 0]), 2, 32) := by kernel_rfl
theorem RdL.at2 {w : World} {B n : Nat} {A : Option Addr} {R : List SlA} {L : List Li} (h : RdL w B A n R L) {i : Nat} (hi : i < n) :
    ∃ b o g p l Ai ni ci, A = some ⟨b, o, none⟩ ∧ b < B ∧ L[i]? = some (g, p, l) ∧ R[i]? = some (Ai, ni, ci) ∧ w.cell? ⟨b, o + i * 3, none⟩ = some (.bool g) ∧ w.cell? ⟨b, o + i * 3 + 1, none⟩ = some (nv p) ∧ w.cell? ⟨b, o + i * 3 + 2, none⟩ = some (.slice Ai ni ci) ∧ RdT w B Ai ni l := by
  obtain ⟨b, o, e, hb, hc⟩ := h.top.2 (by omega)
  have h1 : R[i]? = some (R[i]'(by rw [h.lenR]; exact hi)) := List.getElem?_eq_getElem _
  have h2 : L[i]? = some (L[i]'(by rw [h.lenL]; exact hi)) := List.getElem?_eq_getElem _
  generalize R[i]'(by rw [h.lenR]; exact hi) = r at h1
  generalize L[i]'(by rw [h.lenL]; exact hi) = x at h2
  obtain ⟨Ai, ni, ci⟩ := r
  obtain ⟨g, p, l⟩ := x
  have hz : (L.zip R)[i]? = some ((g, p, l), (Ai, ni, ci)) := by
    rw [List.getElem?_zip_eq_some]
    exact ⟨h2, h1⟩
  have hl : ∀ x : Li × SlA, (liC x).length = 3 := fun _ => rfl
  have f0 := flat_at liC 3 hl hz 0 (by omega)
  have f1 := flat_at liC 3 hl hz 1 (by omega)
  have f2 := flat_at liC 3 hl hz 2 (by omega)
  exact ⟨b, o, g, p, l, Ai, ni, ci, e, hb, h2, h1, hc _ _ f0, hc _ _ f1, hc _ _ f2, h.row i _ _ h1 h2⟩
/-- All atoms of a clause, as slices. -/
def atomsR (p : UInt32) (s : SlA) (R : List SlA) (L : List Li) : List AtR := (p, s) :: (L.zip R).map fun z => (z.1.2.1, z.2)
end Go.Proofs.Ytfmghkplafploaa

set_option linter.unusedVariables false
set_option linter.unusedSimpArgs false
namespace Go.Proofs.Ytfmghkplafploaa
open Go Go.RowKit

abbrev Key := UInt32 × Nat
def keyR (x : AtR) : Key := (x.1, x.2.2.1)
def keysC (c : Cl) : List Key := (c.1.1, c.1.2.length) :: c.2.map fun x => (x.2.1, x.2.2.length)
/-- Two keys: no predicate with two lengths. -/
abbrev Fit (a b : Key) : Prop := a.1 = b.1 → a.2 = b.2
theorem Fit.symm {a b : Key} (h : Fit a b) : Fit b a := fun e => (h e.symm).symm
def fitL (K : List Key) : Bool := decide (K.Pairwise Fit)
theorem keys_atoms {w : World} {B n1 : Nat} {A1 : Option Addr} {R : List SlA} {L : List Li} (h : RdL w B A1 n1 R L) (p : UInt32) (A : Option Addr) (n c : Nat) (l : List Tm) (hl : l.length = n) :
    (atomsR p (A, n, c) R L).map keyR = keysC ((p, l), L) := by
  unfold atomsR keysC
  rw [List.map_cons, List.map_map]
  congr 1
  · unfold keyR; rw [← hl]
  · refine List.ext_getElem (by simp [h.lenL, h.lenR]) fun i h1 h2 => ?_
    simp only [List.length_map] at h2
    have hi : i < n1 := by rw [← h.lenL]; exact h2
    obtain ⟨b, o, g, q, l3, Ai, ni, ci, _, _, hx, hr, _, _, _, hrow⟩ := h.at2 hi
    obtain ⟨q1, q2⟩ := List.getElem?_eq_some_iff.1 hx
    obtain ⟨q3, q4⟩ := List.getElem?_eq_some_iff.1 hr
    simp [q2, q4, keyR, rdT_len hrow]
theorem rdAt {w : World} {B n : Nat} {A : Option Addr} {X : List AtR} (h : Rd w B 2 A n (X.flatMap atC)) {i : Nat} {x : AtR} (hi : i < n) (hx : X[i]? = some x) : ∃ b o, A = some ⟨b, o, none⟩ ∧ b < B ∧ w.cell? ⟨b, o + i * 2, none⟩ = some (nv x.1) ∧ w.cell? ⟨b, o + i * 2 + 1, none⟩ = some (.slice x.2.1 x.2.2.1 x.2.2.2) := by
  obtain ⟨b, o, e, hb, hc⟩ := h.2 (by omega)
  have hl : ∀ x : AtR, (atC x).length = 2 := fun _ => rfl
  have f0 := flat_at atC 2 hl hx 0 (by omega)
  have f1 := flat_at atC 2 hl hx 1 (by omega)
  exact ⟨b, o, e, hb, hc _ _ f0, hc _ _ f1⟩
theorem take_len_flat {C : List Cl} {i : Nat} {x : Cl} (h : C[i]? = some x) : (C.take (i + 1)).flatMap keysC = (C.take i).flatMap keysC ++ keysC x := by
  rw [List.take_add_one, h, List.flatMap_append]
  simp
end Go.Proofs.Ytfmghkplafploaa

set_option linter.unusedVariables false
set_option linter.unusedSimpArgs false
namespace Go.Proofs.Ytfmghkplafploaa
open Go Go.RowKit

def badAt (C : List Cl) (i : Nat) (x : Cl) : Nat := if mayC x = false then 8 else if safeC x = false then 10 else if fitL ((C.take (i + 1)).flatMap keysC) = false then 9 else 0
def rightFrom (C : List Cl) : List Cl → Nat → Nat × Nat
  | [], _ => (0, 0)
  | x :: r, i => if badAt C i x = 0 then rightFrom C r (i + 1) else (i, badAt C i x)
/-- What Right answers. -/
def rightM (C : List Cl) : Nat × Nat := if 400 < C.length then (0, 6) else rightFrom C C 0
theorem rightFrom_bad {C r : List Cl} {i : Nat} {x : Cl} (h : badAt C i x ≠ 0) : rightFrom C (x :: r) i = (i, badAt C i x) := if_neg h
theorem rightFrom_ok {C r : List Cl} {i : Nat} {x : Cl} (h : badAt C i x = 0) : rightFrom C (x :: r) i = rightFrom C r (i + 1) := if_pos h
/-- What one goes through has no more than so much in it. -/
def Slim (C : List Cl) : Prop := ∀ x ∈ C, x.1.2.length ≤ 1000000 ∧ x.2.length ≤ 1000000 ∧ ∀ y ∈ x.2, y.2.2.length ≤ 1000000
theorem RdCs.cut {w : World} {B n k : Nat} {A : Option Addr} {Q : List ClA} {C : List Cl} (h : RdCs w B A n Q C) (hk : k ≤ n) : RdCs w B A k (Q.take k) (C.take k) := by
  have hz : ((C.take k).zip (Q.take k)) = (C.zip Q).take k := by unfold List.zip; rw [List.take_zipWith]
  refine ⟨by rw [List.length_take, h.lenQ]; omega, by rw [List.length_take, h.lenC]; omega, ?_, fun i q x h1 h2 => ?_⟩
  · have hlen : ∀ X : List (Cl × ClA), (X.flatMap clC).length = X.length * 3 := fun X => by
      induction X with
      | nil => rfl
      | cons x X ih => rw [List.flatMap_cons, List.length_append, ih, List.length_cons]; simp [clC]; omega
    rw [hz]
    refine ⟨by rw [hlen, List.length_take, List.length_zip, h.lenQ, h.lenC]; omega, fun hp => ?_⟩
    obtain ⟨b, o, e, hb, hc⟩ := h.top.2 (by omega)
    refine ⟨b, o, e, hb, fun j u hu => hc j u ?_⟩
    have hpre : (C.zip Q).flatMap clC = ((C.zip Q).take k).flatMap clC ++ ((C.zip Q).drop k).flatMap clC := by
      rw [← List.flatMap_append, List.take_append_drop]
    rw [hpre, List.getElem?_append_left (List.getElem?_eq_some_iff.1 hu).1]
    exact hu
  · rw [List.getElem?_take] at h1 h2
    split at h1
    · rename_i hlt
      rw [if_pos hlt] at h2
      exact h.row i q x h1 h2
    · cases h1
end Go.Proofs.Ytfmghkplafploaa

set_option linter.unusedVariables false
set_option linter.unusedSimpArgs false
namespace Go.Proofs.Ytfmghkplafploaa
open Go Go.RowKit

theorem rightFrom_zero (C r : List Cl) (i : Nat) : (rightFrom C r i).2 = 0 ↔ ∀ j x, r[j]? = some x → badAt C (i + j) x = 0 := by
  induction r generalizing i with
  | nil => simp [rightFrom]
  | cons x r ih =>
    by_cases h : badAt C i x = 0
    · rw [rightFrom_ok h, ih]
      constructor
      · intro H j y hy
        cases j with
        | zero => simp at hy; subst hy; exact h
        | succ j => rw [List.getElem?_cons_succ] at hy; have := H j y hy; rwa [show i + (j + 1) = i + 1 + j by omega]
      · intro H j y hy
        have := H (j + 1) y (by rw [List.getElem?_cons_succ]; exact hy)
        rwa [show i + (j + 1) = i + 1 + j by omega] at this
    · rw [rightFrom_bad h]
      constructor
      · intro H; exact absurd H h
      · intro H; exact absurd (H 0 x rfl) (by rw [Nat.add_zero]; exact h)
theorem badAt_zero (C : List Cl) (i : Nat) (x : Cl) : badAt C i x = 0 ↔ mayC x = true ∧ safeC x = true ∧ fitL ((C.take (i + 1)).flatMap keysC) = true := by
  unfold badAt
  split
  · rename_i h; constructor
    · intro e; omega
    · rintro ⟨e, _⟩; rw [h] at e; cases e
  · rename_i h1
    split
    · rename_i h; constructor
      · intro e; omega
      · rintro ⟨_, e, _⟩; rw [h] at e; cases e
    · rename_i h2
      split
      · rename_i h; constructor
        · intro e; omega
        · rintro ⟨_, _, e⟩; rw [h] at e; cases e
      · rename_i h3
        refine ⟨fun _ => ⟨by simpa using h1, by simpa using h2, by simpa using h3⟩, fun _ => rfl⟩
theorem fit_sub {K K' : List Key} (h : K.Sublist K') (hf : fitL K' = true) : fitL K = true := by
  unfold fitL at *
  rw [decide_eq_true_iff] at *
  exact hf.sublist h
/-- A program is right just if each clause is, and all lengths fit. -/
theorem right_zero (C : List Cl) : (rightM C).2 = 0 ↔ C.length ≤ 400 ∧ (∀ x ∈ C, mayC x = true ∧ safeC x = true) ∧ fitL (C.flatMap keysC) = true := by
  unfold rightM
  split
  · rename_i h; constructor
    · intro e; cases e
    · rintro ⟨e, _⟩; omega
  · rename_i h
    rw [rightFrom_zero]
    constructor
    · intro H
      refine ⟨by omega, fun x hx => ?_, ?_⟩
      · obtain ⟨j, hj, rfl⟩ := List.mem_iff_getElem.1 hx
        obtain ⟨a, b, _⟩ := (badAt_zero _ _ _).1 (H j _ (List.getElem?_eq_getElem hj))
        exact ⟨a, b⟩
      · rcases Nat.eq_zero_or_pos C.length with h0 | h0
        · rw [List.length_eq_zero_iff] at h0
          subst h0
          rfl
        · obtain ⟨_, _, c⟩ := (badAt_zero _ _ _).1 (H (C.length - 1) _ (List.getElem?_eq_getElem (by omega)))
          rwa [show 0 + (C.length - 1) + 1 = C.length by omega, List.take_length] at c
    · rintro ⟨_, H, hf⟩ j x hx
      refine (badAt_zero _ _ _).2 ⟨(H x (List.mem_of_getElem? hx)).1, (H x (List.mem_of_getElem? hx)).2, fit_sub ?_ hf⟩
      rw [Nat.zero_add]
      conv => rhs; rw [← List.take_append_drop (j + 1) C]
      rw [List.flatMap_append]
      exact List.sublist_append_left _ _
end Go.Proofs.Ytfmghkplafploaa

