/- Layer 18 (ring), the landed program: a map from numbers to keys, each key in a row of its own; the look-up, the store, the deletion, the length. -/
import Derived.Test.YtedgigoelhcfnaaRnE
import Derived.Maps.OwnSet
import Derived.Maps.OwnOps
import Derived.Maps.Range
set_option linter.unusedVariables false
set_option linter.unusedSimpArgs false
namespace Go.Proofs.Ytedgigoelhcfnaa
open Go Go.RowKit Go.Maps

def keyR (p : UInt32) : Lit := .int .u32 (p.toNat : Int)
theorem keyR_inj {a b : UInt32} (h : keyR a = keyR b) : a = b := by
  simp only [keyR, Lit.int.injEq, true_and] at h
  exact UInt32.toNat_inj.1 (by omega)
theorem keyR_law : Keyed Try.prog 31 := int_keyed Try.underlying31
theorem keyR_wf (p : UInt32) : (Lit.int .u32 (p.toNat : Int)).wf = true := by
  have h : p.toNat < 4294967296 := UInt32.toNat_lt p
  have e1 : IntKind.u32.min = 0 := rfl
  have e2 : IntKind.u32.max = 4294967295 := rfl
  simp only [Lit.wf, Bool.and_eq_true, decide_eq_true_eq]
  omega
theorem keyR_of (p : UInt32) : keyOf Try.prog 31 (nr p) = some (keyR p) := keyOf_int_mk Try.underlying31 (keyR_wf p)
/-- What reads as a key is such a number. -/
theorem keyR_back {v : Value} {kl : Lit} (h : keyOf Try.prog 31 v = some kl) : ∃ p : UInt32, v = nr p ∧ kl = keyR p := by
  cases v <;> simp [keyOf, Try.underlying31, mapKey] at h
  rename_i q a
  obtain ⟨⟨rfl, hw⟩, rfl⟩ := h
  have e1 : IntKind.u32.min = 0 := rfl
  have e2 : IntKind.u32.max = 4294967295 := rfl
  simp only [Lit.wf, Bool.and_eq_true, decide_eq_true_eq] at hw
  have e : ((UInt32.ofNat a.toNat).toNat : Int) = a := by
    rw [UInt32.toNat_ofNat']
    omega
  exact ⟨UInt32.ofNat a.toNat, by rw [nr, e], by rw [keyR, e]⟩
/-- An element of the map reads as the slice that it is. -/
def slcE : Value → Option (DataW Value × List MemPlace)
  | .slice A n c => some (.held (.slice A n c), [])
  | _ => none
theorem slcE_inv {v : Value} {z : DataW Value × List MemPlace} (h : slcE v = some z) : z = (.held v, []) := by
  unfold slcE at h
  split at h
  · cases h; rfl
  · cases h
theorem zeroR (w : World) : (zeroValue 32).run Try.prog w = .ok (.slice none 0 0) w := by kernel_rfl
/-- Block b is a map from who to the keys, each in a block of O that is not b. -/
def MapK (w : World) (b : Nat) (O : Nat → Prop) (K : List RgE) : Prop :=
  ∃ (m : Nat) (D : DataW Value), m ≤ 1000 ∧ w.ownsMap Try.prog 31 slcE b m D ∧ (∀ u, has D (keyR u) = (rgAt K u).isSome) ∧ ∀ u k, rgAt K u = some k → ∃ A c, (∀ z, D.atKey (keyR u) z = .held (.slice A k.length c)) ∧ k.length ≤ c ∧ Rd w w.heap.size 1 A k.length (k.map bv) ∧ ∀ x, A.map (·.block) = some x → O x ∧ x ≠ b
section
variable {w w' : World} {b : Nat} {O O' : Nat → Prop} {K : List RgE}
theorem rdBlk {B n : Nat} {A : Option Addr} {xs : List Value} (h : Rd w B 1 A n xs) (hk : ∀ x, A.map (·.block) = some x → ∀ i, w'.cell? ⟨x, i, none⟩ = w.cell? ⟨x, i, none⟩) : Rd w' B 1 A n xs := by
  refine ⟨h.1, fun h0 => ?_⟩
  obtain ⟨g, o, rfl, hg, hc⟩ := h.2 h0
  exact ⟨g, o, rfl, hg, fun i u hu => (hk g rfl _).trans (hc i u hu)⟩
theorem rdSize {B B' n : Nat} {A : Option Addr} {xs : List Value} (h : Rd w B 1 A n xs) (hB : B ≤ B') : Rd w B' 1 A n xs := h.more hB
theorem MapK.lt (h : MapK w b O K) : b < w.heap.size := by
  obtain ⟨m, D, _, h1, _⟩ := h
  exact h1.lt
theorem MapK.turn {H : Nat → Prop} (h : MapK w b O K) (ht : Turn H w w') (hb : ¬ H b) (hO : ∀ x, O x → ¬ H x) (hl : ∀ x, O x → x < w.heap.size) : MapK w' b O K := by
  obtain ⟨m, D, hm, ⟨es, clock, hh, h1⟩, h2, h3⟩ := h
  refine ⟨m, D, hm, ⟨es, clock, (ht.block b (Array.getElem?_eq_some_iff.1 hh).1 hb).trans hh, h1⟩, h2, fun u k hk => ?_⟩
  obtain ⟨A, c, h4, h5, h6, h7⟩ := h3 u k hk
  exact ⟨A, c, h4, h5, (rdBlk h6 fun x hx i => ht.cell (p := ⟨x, i, none⟩) (hl x (h7 x hx).1) (hO x (h7 x hx).1)).more ht.size, h7⟩
theorem MapK.mono (h : MapK w b O K) (hO : ∀ x, O x → O' x) : MapK w b O' K := by
  obtain ⟨m, D, hm, h1, h2, h3⟩ := h
  refine ⟨m, D, hm, h1, h2, fun u k hk => ?_⟩
  obtain ⟨A, c, h4, h5, h6, h7⟩ := h3 u k hk
  exact ⟨A, c, h4, h5, h6, fun x hx => ⟨hO x (h7 x hx).1, (h7 x hx).2⟩⟩
theorem MapK.made (w : World) (O : Nat → Prop) : MapK (w.alloc (.map #[] 0)) w.heap.size O [] :=
  ⟨0, .map [], by omega, World.ownsMap_made w _ _ _, fun u => rfl, fun u k hk => by simp [rgAt] at hk⟩
/-- How many there are. -/
theorem sizeK {m : Nat} {D : DataW Value} (h : w.ownsMap Try.prog 31 slcE b m D) (hh : ∀ u, has D (keyR u) = (rgAt K u).isSome) (hK : (K.map (·.1)).Pairwise (· < ·)) : Maps.size D = K.length := by
  obtain ⟨es, hD, hpw, hik⟩ := h.entries keyR_law
  subst hD
  have hko : ∀ p ∈ es, KeysOf Try.prog 31 p.1 := by
    obtain ⟨es1, clock, _, F, _, e⟩ := h
    simp only [DataW.map.injEq] at e
    subst e
    exact fun p hp => fit_keys F p (mem_sorted.1 hp)
  obtain ⟨ks, hks⟩ : ∃ ks : List UInt32, ks.map keyR = es.map (·.1) := by
    clear hpw h hh hik
    induction es with
    | nil => exact ⟨[], rfl⟩
    | cons p r ih =>
      obtain ⟨ks, hks⟩ := ih fun q hq => hko q (List.mem_cons_of_mem _ hq)
      obtain ⟨v, hv⟩ := hko p (List.mem_cons_self ..)
      obtain ⟨x, _, hx⟩ := keyR_back hv
      exact ⟨x :: ks, by rw [List.map_cons, List.map_cons, hks, hx]⟩
  have hnd : ks.Nodup := by
    have h1 : (ks.map keyR).Pairwise (· ≠ ·) := by rw [hks, List.pairwise_map]; exact hpw
    rw [List.pairwise_map] at h1
    exact h1.imp fun {a b} q e => q (by rw [e])
  have hmem : ∀ u, u ∈ ks ↔ u ∈ K.map (·.1) := fun u => by
    have h1 := hh u
    have h2 : has (.map es) (keyR u) = true ↔ u ∈ ks := by
      rw [has_eq, List.any_eq_true]
      constructor
      · rintro ⟨p, hp, hs⟩
        have h3 : p.1 ∈ ks.map keyR := by rw [hks]; exact List.mem_map.2 ⟨p, hp, rfl⟩
        obtain ⟨y, hy, e⟩ := List.mem_map.1 h3
        rw [← e] at hs
        have h4 : keyR y = keyR u := WideAt.sameKey_eq hs
        rw [← keyR_inj h4]
        exact hy
      · intro hu
        have h3 : keyR u ∈ es.map (·.1) := by rw [← hks]; exact List.mem_map.2 ⟨u, hu, rfl⟩
        obtain ⟨p, hp, e⟩ := List.mem_map.1 h3
        refine ⟨p, hp, ?_⟩
        rw [e]
        exact WideAt.sameKey_self (by trivial)
    rw [← h2, h1]
    cases hr : rgAt K u with
    | none => exact ⟨fun h => (by cases h), fun h => absurd h (rgAt_none.1 hr)⟩
    | some k => exact ⟨fun _ => List.mem_map.2 ⟨_, rgAt_mem hr, rfl⟩, fun _ => rfl⟩
  have hp : ks.Perm (K.map (·.1)) := (List.perm_ext_iff_of_nodup hnd (rg_nodup hK)).2 hmem
  have h1 := hp.length_eq
  have h2 := congrArg List.length hks
  rw [List.length_map, List.length_map] at h2
  rw [List.length_map] at h1
  rw [size_eq]
  omega
end
/-- The ring's map: none as long as nobody had a key. -/
def MapN (w : World) (mb : Option Nat) (O : Nat → Prop) (K : List RgE) : Prop := match mb with | none => K = [] | some b => O b ∧ MapK w b O K
section
variable {ops : Array Oper} {rest : List Oper} {o : Oper} {a : Act} {Q : Exit → Act → World → Prop}
/-- 'k, is := m[u]': of one who has none. -/
theorem lookR_not (w : World) (hg : o.guard = none) (m x : Operand) (hop : o.op = Op.lookup 46 m x true)
    (mb : Option Nat) (O : Nat → Prop) (K : List RgE) (u : UInt32) (hm : a.eval m = .map mb) (hx : a.eval x = nr u) (h : MapN w mb O K) (hf : rgAt K u = none)
    (hK : wpList Try.prog ops Q rest (a.put o.dst (.tuple #[.slice none 0 0, .bool false])) w) : wpList Try.prog ops Q (o :: rest) a w := by
  cases mb with
  | none =>
    refine wpList_plain hg fun K' hK' => ?_
    have hrun := Maps.look_nil (w := w) true keyR_law Try.underlying46 (zeroR w) (keyR_of u)
    unfold Oper.wp
    simp [execOp, hop, hm, hx, hrun, Result.andThen]
    exact hK' _ _ hK
  | some b =>
    obtain ⟨_, m', D, _, h1, h2, h3⟩ := h
    refine wpList_lookup_own_ok w hg m x _ hop 31 32 keyR_law Try.underlying46 slcE (zeroR w) (.held (.slice none 0 0)) [] rfl b m' D hm h1 (nr u) (keyR u) hx (keyR_of u) ?_
    intro v ps hv
    have hh := h2 u
    rw [hf] at hh
    have hh2 : has D (keyR u) = false := hh
    rw [atKey_of_not_has hh2] at hv
    have := slcE_inv hv
    simp only [Prod.mk.injEq, DataW.held.injEq] at this
    obtain ⟨rfl, _⟩ := this
    rw [hh2]
    exact hK
/-- .. of one who has one. -/
theorem lookR_is (w : World) (hg : o.guard = none) (m x : Operand) (hop : o.op = Op.lookup 46 m x true)
    (mb : Option Nat) (O : Nat → Prop) (K : List RgE) (u : UInt32) (k : List UInt8) (hm : a.eval m = .map mb) (hx : a.eval x = nr u) (h : MapN w mb O K) (hf : rgAt K u = some k)
    (hK : ∀ A c, k.length ≤ c → Rd w w.heap.size 1 A k.length (k.map bv) → (∀ x, A.map (·.block) = some x → O x) → wpList Try.prog ops Q rest (a.put o.dst (.tuple #[.slice A k.length c, .bool true])) w) : wpList Try.prog ops Q (o :: rest) a w := by
  cases mb with
  | none =>
    have h0 : K = [] := h
    subst h0
    simp [rgAt] at hf
  | some b =>
    obtain ⟨_, m', D, _, h1, h2, h3⟩ := h
    refine wpList_lookup_own_ok w hg m x _ hop 31 32 keyR_law Try.underlying46 slcE (zeroR w) (.held (.slice none 0 0)) [] rfl b m' D hm h1 (nr u) (keyR u) hx (keyR_of u) ?_
    intro v ps hv
    have hh := h2 u
    rw [hf] at hh
    have hh2 : has D (keyR u) = true := hh
    obtain ⟨A, c, h4, h5, h6, h7⟩ := h3 u k hf
    rw [h4] at hv
    have := slcE_inv hv
    simp only [Prod.mk.injEq, DataW.held.injEq] at this
    obtain ⟨rfl, _⟩ := this
    rw [hh2]
    exact hK A c h5 h6 fun x hx => (h7 x hx).1
/-- 'len(m)'. -/
theorem lenR (w : World) (hg : o.guard = none) (m : Operand) (hop : o.op = Op.call { callee := Callee.builtin Builtin.len, args := #[m], argTypes := #[46] })
    (mb : Option Nat) (O : Nat → Prop) (K : List RgE) (hm : a.eval m = .map mb) (h : MapN w mb O K) (hr : (K.map (·.1)).Pairwise (· < ·))
    (hK : wpList Try.prog ops Q rest (a.put o.dst (.int .i64 (K.length : Int))) w) : wpList Try.prog ops Q (o :: rest) a w := by
  cases mb with
  | none =>
    have h0 : K = [] := h
    subst h0
    refine wpList_plain hg fun K' hK' => ?_
    have hrun := Maps.len_nil (w := w) Try.underlying46 o.type
    unfold Oper.wp
    simp [execOp, hop, resolve, invoke, builtin, hm, hrun, Result.andThen]
    exact hK' _ _ hK
  | some b =>
    obtain ⟨_, m', D, _, h1, h2, h3⟩ := h
    refine wpList_len_own w hg m _ hop 31 32 Try.underlying46 slcE b m' D hm h1 ?_
    rw [sizeK h1 h2 hr]
    exact hK
theorem tightK {w : World} {b m : Nat} {D : DataW Value} (h : w.ownsMap Try.prog 31 slcE b m D) : w.ownsMap Try.prog 31 slcE b (Maps.size D) D := by
  obtain ⟨es, clock, h1, h2, h3, rfl⟩ := h
  exact ⟨es, clock, h1, h2, by simp [Maps.size, length_sorted], rfl⟩
/-- 'm[u] = key', of one who has none. -/
theorem putR (w : World) (b : Nat) (O O' : Nat → Prop) (K : List RgE) (u : UInt32) (k : List UInt8) (A : Option Addr) (c : Nat) (h : MapK w b O K) (hr : (K.map (·.1)).Pairwise (· < ·)) (hl : K.length ≤ 500) (hf : rgAt K u = none)
    (hc : k.length ≤ c) (hrd : Rd w w.heap.size 1 A k.length (k.map bv)) (hO : ∀ x, A.map (·.block) = some x → O' x ∧ x ≠ b) (hOO : ∀ x, O x → O' x) (hOl : ∀ x, O x → x < w.heap.size) (hAl : ∀ x, A.map (·.block) = some x → x < w.heap.size) :
    ∃ w', (Instr.mapUpdate 46 (.map (some b)) (nr u) (.slice A k.length c)).run Try.prog w = .ok () w' ∧ MapK w' b O' (rgIns K u k) ∧ Turn (fun x => x = b) w w' := by
  obtain ⟨m', D, hm', h1, h2, h3⟩ := h
  have hsz := sizeK h1 h2 hr
  have h1' := tightK h1
  rw [hsz] at h1'
  obtain ⟨w', hrun, h4, h5⟩ := h1'.update (val := .slice A k.length c) (d := .held (.slice A k.length c)) (ps := []) keyR_law Try.underlying46 (by simp only [maxLen]; omega) (keyR_of u) rfl
  have ht : Turn (fun x => x = b) w w' := Turn.ofGrown h5 fun k e => by cases e; rfl
  refine ⟨w', hrun, ⟨_, _, by omega, h4, fun q => ?_, fun q k2 hk2 => ?_⟩, ht⟩
  · rw [rgAt_ins hr (rgAt_none.1 hf)]
    by_cases hq : q = u
    · subst hq
      rw [if_pos rfl]
      exact has_put_same (World.ownsMap.isMap h1) (by trivial) _
    · rw [if_neg hq, has_put_other (fun e => hq (keyR_inj e))]
      exact h2 q
  · rw [rgAt_ins hr (rgAt_none.1 hf)] at hk2
    by_cases hq : q = u
    · subst hq
      rw [if_pos rfl] at hk2
      cases hk2
      exact ⟨A, c, fun z => atKey_put_same (World.ownsMap.isMap h1) (by trivial) _ z, hc, (rdBlk hrd fun x hx i => ht.cell (p := ⟨x, i, none⟩) (hAl x hx) (hO x hx).2).more ht.size, hO⟩
    · rw [if_neg hq] at hk2
      obtain ⟨A2, c2, g4, g5, g6, g7⟩ := h3 q k2 hk2
      exact ⟨A2, c2, fun z => by rw [atKey_put_other (fun e => hq (keyR_inj e))]; exact g4 z, g5, (rdBlk g6 fun x hx i => ht.cell (p := ⟨x, i, none⟩) (hOl x (g7 x hx).1) (g7 x hx).2).more ht.size, fun x hx => ⟨hOO x (g7 x hx).1, (g7 x hx).2⟩⟩
/-- 'delete(m, u)'. -/
theorem cutR (w : World) (hg : o.guard = none) (m x : Operand) (hop : o.op = Op.call { callee := Callee.builtin Builtin.delete, args := #[m, x], argTypes := #[46, 31] })
    (b : Nat) (O : Nat → Prop) (K : List RgE) (u : UInt32) (hm : a.eval m = .map (some b)) (hx : a.eval x = nr u) (h : MapK w b O K) (hr : (K.map (·.1)).Pairwise (· < ·)) (hOl : ∀ x, O x → x < w.heap.size)
    (hK : ∀ w', MapK w' b O (rgCut K u) → w.grownBy w' (some b) → wpList Try.prog ops Q rest (a.put o.dst (.tuple #[])) w') : wpList Try.prog ops Q (o :: rest) a w := by
  obtain ⟨m', D, hm', h1, h2, h3⟩ := h
  refine wpList_delete_own w hg m x _ _ hop 32 keyR_law Try.underlying46 slcE b _ D hm h1 (nr u) (keyR u) hx (keyR_of u) ?_
  intro w' h4 h5
  have h5' := h5.grown
  have ht : Turn (fun x => x = b) w w' := Turn.ofGrown h5' fun k e => by cases e; rfl
  refine hK w' ⟨m', _, hm', h4, fun q => ?_, fun q k2 hk2 => ?_⟩ h5'
  · rw [rgAt_cut hr]
    by_cases hq : q = u
    · subst hq
      rw [if_pos rfl]
      exact has_del_same
    · rw [if_neg hq, has_del_other (fun e => hq (keyR_inj e))]
      exact h2 q
  · rw [rgAt_cut hr] at hk2
    by_cases hq : q = u
    · rw [if_pos hq] at hk2
      cases hk2
    · rw [if_neg hq] at hk2
      obtain ⟨A2, c2, g4, g5, g6, g7⟩ := h3 q k2 hk2
      exact ⟨A2, c2, fun z => by rw [atKey_del_other (fun e => hq (keyR_inj e))]; exact g4 z, g5, (rdBlk g6 fun x hx i => ht.cell (p := ⟨x, i, none⟩) (hOl x (g7 x hx).1) (g7 x hx).2).more ht.size, g7⟩
end
end Go.Proofs.Ytedgigoelhcfnaa
