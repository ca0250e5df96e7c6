/- Layer 6 (wire), what the program appends: how a call of it ends; a var, a number, a term, so or not. -/
import Derived.Test.YtcoafgnbmgndeaaWrP
set_option linter.unusedVariables false
set_option linter.unusedSimpArgs false
namespace Go.Proofs.Ytcoafgnbmgndeaa
open Go Go.RowKit

/-- Behind the bytes bs of a row of the caller's stand the bytes x; nothing else that was there has turned. -/
def Puts (B : Nat) (A0 : Option Addr) (c0 m : Nat) (bs x : List UInt8) (w : World) (e : Ending) (w' : World) : Prop :=
  ∃ A' m' c', e = .returned (.slice A' m' c') ∧ Ow w' B A' c' m' (bs ++ x) ∧ Turn (fun k => (Value.slice A0 m c0).ownBlock = some k) w w' ∧
    (∀ k, (Value.slice A' m' c').ownBlock = some k → (Value.slice A0 m c0).ownBlock = some k ∨ w.heap.size ≤ k)
theorem app8f {ops : Array Oper} {rest : List Oper} {o : Oper} {a : Act} {Q : Exit → Act → World → Prop} (w : World) (hgd : o.guard = none) (p x : Operand)
    (ho : o.op = .call { callee := .builtin .append, args := #[p, x], argTypes := #[22, 22] })
    (base : Nat) (A0 : Option Addr) (c0 n : Nat) (bs : List UInt8) (hv : a.eval p = .slice A0 n c0) (hown : Ow w base A0 c0 n bs)
    (B : Nat) (A : Option Addr) (m c : Nat) (news : List UInt8) (hx : a.eval x = .slice A m c) (hr : Rd w B 1 A m (news.map bv)) (hb : n + m ≤ 70368744177664) (hbase : base ≤ w.heap.size)
    (h : ∀ A' c' w', Ow w' base A' c' (n + m) (bs ++ news) → Turn (fun k => (Value.slice A0 n c0).ownBlock = some k) w w' → (∀ k, (Value.slice A' (n + m) c').ownBlock = some k → (Value.slice A0 n c0).ownBlock = some k ∨ w.heap.size ≤ k) → wpList Try.prog ops Q rest (a.put o.dst (.slice A' (n + m) c')) w') : wpList Try.prog ops Q (o :: rest) a w := by
  obtain ⟨i0, hi, hz0, hz1, hz2⟩ := info_parts u8info
  refine wpList_app w hgd p x 22 ho base 5 i0 _ 1 1 Try.underlying22 hi hz0 hz1 hz2 rfl (by decide) _ n _ hv hown B A m c _ hx hr (bv_one news) (by simp only [maxLen]; omega) (by omega) hbase ?_
  intro A' c' w' h1 h2 h3
  refine h A' c' w' (by unfold Ow; rw [List.map_append]; exact h1) (Turn.ofGrown h2 (fun _ h => h)) (fun k hk => ?_)
  rcases h3 with h3 | h3
  · exact .inl (h3 ▸ hk)
  · rw [h3] at hk
    exact .inr (by have := Option.some.inj hk; omega)
theorem Puts.then_ {B : Nat} {A0 A1 : Option Addr} {c0 m c1 m1 : Nat} {bs x y : List UInt8} {w w1 w2 : World} {e : Ending} (ht : Turn (fun k => (Value.slice A0 m c0).ownBlock = some k) w w1)
    (hf : ∀ k, (Value.slice A1 m1 c1).ownBlock = some k → (Value.slice A0 m c0).ownBlock = some k ∨ w.heap.size ≤ k) (h : Puts B A1 c1 m1 (bs ++ x) y w1 e w2) : Puts B A0 c0 m bs (x ++ y) w e w2 := by
  obtain ⟨A', m', c', he, ho, ht2, hf2⟩ := h
  refine ⟨A', m', c', he, by rw [← List.append_assoc]; exact ho, ht.then_ ht2 (fun k hk h => ?_), fun k hk => ?_⟩
  · rcases hf k h with h | h
    · exact h
    · omega
  · rcases hf2 k hk with h | h
    · exact hf k h
    · have := ht.size
      exact .inr (by omega)
theorem Ow.lt {w : World} {B c n : Nat} {A : Option Addr} {bs : List UInt8} (h : Ow w B A c n bs) (k : Nat) (hk : (Value.slice A n c).ownBlock = some k) : B ≤ k ∧ k < w.heap.size := World.ownsRow.lt h k hk
theorem run_lit8b (z : UInt8) (w : World) : (Instr.buildSlice 22 1 #[(0, .int .u8 (z.toNat : Int))]).run Try.prog w = .ok (.slice (some ⟨w.heap.size, 0, none⟩) 1 1) (w.alloc (.cells #[.int .u8 (z.toNat : Int)] 5)) := run_lit8 z w

set_option maxRecDepth 100000 in
set_option maxHeartbeats 4000000 in
theorem appVar_any (B : Nat) (A0 : Option Addr) (c0 m : Nat) (bs : List UInt8) (N : Nat) (w : World) (hown : Ow w B A0 c0 m bs) (hB : B ≤ w.heap.size) (hN : N < 18446744073709551616) (hm : m + (var N).length ≤ 1000000000) :
    Calls Try.prog 91 #[.slice A0 m c0, .int .u64 (N : Int)] w fun e w' => Puts B A0 c0 m bs (var N) w e w' := by
  have HO := Lib.hid hown
  clear hown
  go_enter Try.func91, Try.ntmps91
  repeat (first | go_skip | go_guarded | go_step)
  refine (putVar_any none 0 0 [] (N : Int) w Rd.nil (by omega) (by omega) (by omega)).mono ?_
  rintro e w1 ⟨A1, m1, c1, rfl, ho1, hb1⟩
  rw [List.nil_append, Int.toNat_natCast] at ho1
  have hm1 := Ow.len ho1
  have HO1 := Lib.hid ho1
  have HOW := Lib.hid (Ow.below HO.out hb1 (Nat.le_refl _))
  have HB1 := Lib.hid hb1
  have hs1 := hb1.size
  clear ho1 hb1
  dsimp only
  repeat (first
    | (at_builtin; refine app8f _ rfl (.tmp 5) (.tmp 7) rfl B A0 c0 m bs rfl HOW.out _ A1 m1 c1 (var N) rfl (Ow.rd HO1.out) (by omega) (by omega) ?_
       intro A2 c2 w2 ho2 ht2 hf2
       have HO2 := Lib.hid ho2
       have HT2 := Lib.hid ht2
       have HF2 := Lib.hid hf2
       clear ho2 ht2 hf2)
    | go_skip | go_guarded | go_step)
  go_ret
  exact ⟨A2, _, c2, rfl, HO2.out, (Turn.ofBelow HB1.out).trans HT2.out, fun k hk => (HF2.out k hk).imp id (fun h => by omega)⟩

set_option maxRecDepth 100000 in
set_option maxHeartbeats 4000000 in
theorem appNumber_any (B : Nat) (A0 : Option Addr) (c0 m : Nat) (bs : List UInt8) (x : UInt32) (w : World) (hown : Ow w B A0 c0 m bs) (hB : B ≤ w.heap.size) (hm : m + (u32B x).length ≤ 1000000000) :
    Calls Try.prog 65 #[.slice A0 m c0, nv x] w fun e w' => Puts B A0 c0 m bs (u32B x) w e w' := by
  have HO := Lib.hid hown
  have hx := n32_lt x
  have e0 : IntKind.u64.wrap (x.toNat : Int) = (x.toNat : Int) := by rw [IntKind.wrap_u64] <;> omega
  clear hown
  go_enter Try.func65, Try.ntmps65
  repeat (first | go_skip | go_guarded | go_step)
  refine (appVar_any B A0 c0 m bs x.toNat w HO.out hB (by omega) hm).mono ?_
  rintro e w1 ⟨A', m', c', rfl, h⟩
  have H := Lib.hid h
  clear h
  dsimp only
  repeat (first | go_skip | go_guarded | go_step)
  go_ret
  exact ⟨A', m', c', rfl, H.out⟩

set_option maxRecDepth 100000 in
set_option maxHeartbeats 4000000 in
theorem appTerm_any (B : Nat) (A0 : Option Addr) (c0 m : Nat) (bs : List UInt8) (x : Tm) (w : World) (hown : Ow w B A0 c0 m bs) (hB : B ≤ w.heap.size) (hm : m + (termB x).length ≤ 1000000000) :
    Calls Try.prog 97 #[.slice A0 m c0, .agg #[.bool x.1, nv x.2]] w fun e w' => Puts B A0 c0 m bs (termB x) w e w' := by
  obtain ⟨v, y⟩ := x
  have hbU : Below w.heap.size w (w.alloc (.cells #[.bool v, nv y] 54)) := (Below.refl _ _).alloc (Nat.le_refl _) _
  have HO := Lib.hid (Ow.alloc hown (.cells #[.bool v, nv y] 54))
  have HB := Lib.hid hbU
  have hx := n32_lt y
  have e0 : IntKind.u64.wrap (y.toNat : Int) = (y.toNat : Int) := by rw [IntKind.wrap_u64] <;> omega
  have e1 : IntKind.u64.wrap (2 * (y.toNat : Int)) = 2 * (y.toNat : Int) := by rw [IntKind.wrap_u64] <;> omega
  have e2 : IntKind.u64.wrap (2 * (y.toNat : Int) + 1) = 2 * (y.toNat : Int) + 1 := by rw [IntKind.wrap_u64] <;> omega
  clear hown hbU
  dsimp only
  go_enter Try.func97, Try.ntmps97
  cases v with
  | false =>
    repeat (first | go_skip | go_guarded | go_step)
    have hc := appVar_any B A0 c0 m bs (2 * y.toNat) _ HO.out (by simp; omega) (by omega) hm
    rw [show ((2 * y.toNat : Nat) : Int) = 2 * (y.toNat : Int) by omega] at hc
    refine hc.mono ?_
    rintro e w1 ⟨A', m', c', rfl, h1, h2, h3⟩
    have H1 := Lib.hid h1
    have H2 := Lib.hid h2
    have H3 := Lib.hid h3
    clear h1 h2 h3 hc
    dsimp only
    repeat (first | go_skip | go_guarded | go_step)
    go_ret
    exact ⟨A', m', c', rfl, H1.out, (Turn.ofBelow HB.out).trans H2.out, fun k hk => (H3.out k hk).imp id (fun h => by simp at h; omega)⟩
  | true =>
    repeat (first | go_skip | go_guarded | go_step)
    have hc := appVar_any B A0 c0 m bs (2 * y.toNat + 1) _ HO.out (by simp; omega) (by omega) hm
    rw [show ((2 * y.toNat + 1 : Nat) : Int) = 2 * (y.toNat : Int) + 1 by omega] at hc
    refine hc.mono ?_
    rintro e w1 ⟨A', m', c', rfl, h1, h2, h3⟩
    have H1 := Lib.hid h1
    have H2 := Lib.hid h2
    have H3 := Lib.hid h3
    clear h1 h2 h3 hc
    dsimp only
    repeat (first | go_skip | go_guarded | go_step)
    go_ret
    exact ⟨A', m', c', rfl, H1.out, (Turn.ofBelow HB.out).trans H2.out, fun k hk => (H3.out k hk).imp id (fun h => by simp at h; omega)⟩

set_option maxRecDepth 100000 in
set_option maxHeartbeats 4000000 in
theorem appSo_any (B : Nat) (A0 : Option Addr) (c0 m : Nat) (bs : List UInt8) (x : Bool) (w : World) (hown : Ow w B A0 c0 m bs) (hB : B ≤ w.heap.size) (hm : m + (bitB x).length ≤ 1000000000) :
    Calls Try.prog 98 #[.slice A0 m c0, .bool x] w fun e w' => Puts B A0 c0 m bs (bitB x) w e w' := by
  have HO := Lib.hid hown
  have hm : m + 1 ≤ 1000000000 := hm
  clear hown
  go_enter Try.func98, Try.ntmps98
  cases x with
  | true =>
    have hl := rdOne w 1
    have HL := Lib.hid hl
    have HA := Lib.hid (Ow.alloc HO.out (.cells #[.int .u8 1] 5))
    have HB := Lib.hid (show Below w.heap.size w (w.alloc (.cells #[.int .u8 1] 5)) from (Below.refl _ _).alloc (Nat.le_refl _) _)
    clear hl
    repeat (first
      | (at_builtin; refine app8f _ rfl (.tmp 6) (.tmp 7) rfl B A0 c0 m bs rfl HA.out _ _ 1 1 [1] rfl HL.out (by omega) (by simp; omega) ?_
         intro A2 c2 w2 ho2 ht2 hf2
         have HO2 := Lib.hid ho2
         have HT2 := Lib.hid ht2
         have HF2 := Lib.hid hf2
         clear ho2 ht2 hf2)
      | go_skip | go_guarded | go_step)
    go_ret
    exact ⟨A2, _, c2, rfl, HO2.out, (Turn.ofBelow HB.out).trans HT2.out, fun k hk => (HF2.out k hk).imp id (fun h => by simp at h; omega)⟩
  | false =>
    have hl := rdOne w 0
    have HL := Lib.hid hl
    have HA := Lib.hid (Ow.alloc HO.out (.cells #[.int .u8 0] 5))
    have HB := Lib.hid (show Below w.heap.size w (w.alloc (.cells #[.int .u8 0] 5)) from (Below.refl _ _).alloc (Nat.le_refl _) _)
    clear hl
    repeat (first
      | (at_builtin; refine app8f _ rfl (.tmp 9) (.tmp 10) rfl B A0 c0 m bs rfl HA.out _ _ 1 1 [0] rfl HL.out (by omega) (by simp; omega) ?_
         intro A2 c2 w2 ho2 ht2 hf2
         have HO2 := Lib.hid ho2
         have HT2 := Lib.hid ht2
         have HF2 := Lib.hid hf2
         clear ho2 ht2 hf2)
      | go_skip | go_guarded | go_step)
    go_ret
    exact ⟨A2, _, c2, rfl, HO2.out, (Turn.ofBelow HB.out).trans HT2.out, fun k hk => (HF2.out k hk).imp id (fun h => by simp at h; omega)⟩
end Go.Proofs.Ytcoafgnbmgndeaa
