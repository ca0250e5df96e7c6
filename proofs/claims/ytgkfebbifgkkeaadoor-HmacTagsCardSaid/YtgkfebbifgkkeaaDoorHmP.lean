/- Layer 3 (hmac): more for drawn regions; a mac beside bytes that are turned. -/
import Derived.Test.YtgkfebbifgkkeaaDoorHmO
set_option linter.unusedVariables false
set_option linter.unusedSimpArgs false
namespace Go.Proofs.YtgkfebbifgkkeaaDoor
open Go Go.RowKit

/-- As wpAny_meet; the acts may differ in one value. -/
theorem wpAny_meet1 {β : Type} {P : Program} {md : Region.Mode} {ops : Array Oper} {Q : Exit → Act → World → Prop} {fuel : Nat} {listed : Array Bool} {a : Act} {w : World} {b : β → Act} (S : World → Prop) (hc : ∀ x V, S V → Q .normal (b x) V)
    (h : (∀ x V, S V → Q .normal (b x) V) → wpAny P md ops Q fuel listed a w) : wpAny P md ops Q fuel listed a w := h hc

theorem any_lit1 {ops : Array Oper} {E : Prop} {o : Oper} {a : Act} {w : World} {K : Act → World → Prop} {Q : Exit → Act → World → Prop} (hwant : Region.wanted o (yielded ops a.tmps) = true) (x0 : Operand)
    (ho : o.op = .buildSlice 23 1 #[(0, x0)]) (A0 : Option Addr) (n0 c0 : Nat) (l0 : List UInt8) (hx0 : a.eval x0 = .slice A0 n0 c0)
    (h0 : Rd w w.heap.size 1 A0 n0 (l0.map bv)) (k0 : n0 ≤ c0)
    (h : ∀ V q, Rws V V.heap.size (some ⟨q, 0, none⟩) 1 [(A0, n0, c0)] [l0] → Below w.heap.size w V → K (a.put o.dst (.slice (some ⟨q, 0, none⟩) 1 1)) V) :
    if Region.wanted o (yielded ops a.tmps) = true then Oper.wp Tryd.prog o a w K Q else E := by
  rw [if_pos hwant]
  obtain ⟨ie, hie, hsz⟩ : ∃ ie, Tryd.prog.info? 22 = some ie ∧ (ie.size = 1 ∧ ie.zero = some (.slice none 0 0)) := by
    have h1 : (Tryd.prog.info? 22).map (fun i => (i.size, i.zero)) = some (1, some (.slice none 0 0)) := by kernel_rfl
    cases hh : Tryd.prog.info? 22 with
    | none => simp [hh] at h1
    | some ie => simp [hh] at h1; exact ⟨ie, rfl, h1⟩
  refine wp_buildSlice 23 22 1 _ ho #[.slice A0 n0 c0] ie _ Tryd.underlying23 hie hsz.2 (by rw [hsz.1]; omega) (by rw [hsz.1]; omega) ?_ ?_
  · rw [hsz.1]
    simp only [List.map_toArray, List.map_cons, List.map_nil, hx0, List.toList_toArray]
    kernel_rfl
  · exact h _ _ (Rws.lit1 22 h0 k0) ((Below.refl _ _).alloc (Nat.le_refl _) _)

theorem Bk.byte {w : World} {g b : Nat} {t : TypeId} {cs cur : List Value} (h : Bk w g t cs) (hb : Bk w b 5 cur) (ht : t ≠ 5) (i : Nat) (v : Value) : Bk (w.setCell ⟨b, i, none⟩ v) g t cs := by
  refine h.far ?_ v
  rintro (rfl : g = b)
  unfold Bk at h hb
  rw [h] at hb
  simp only [Option.some.injEq, Obj.cells.injEq] at hb
  exact ht hb.2.1
theorem St.byte {w : World} {g b : Nat} {bs : List UInt8} {cur : List Value} (h : St w g bs) (hb : Bk w b 5 cur) (i : Nat) (v : Value) : St (w.setCell ⟨b, i, none⟩ v) g bs := by
  obtain ⟨rest, h1, h2, h3⟩ := h
  exact ⟨rest, h1, h2, h3.byte hb (by decide) i v⟩
theorem Mac.byte {w : World} {g b : Nat} {key : List UInt8} {cur : List Value} (h : Mac w g key) (hb : Bk w b 5 cur) (i : Nat) (v : Value) : Mac (w.setCell ⟨b, i, none⟩ v) g key := by
  obtain ⟨x, o, h1, h2, h3⟩ := h
  exact ⟨x, o, h1.byte hb (by decide) i v, h2.byte hb i v, h3.byte hb i v⟩
theorem incB (x : UInt8) : ∃ y : UInt8, IntKind.u8.wrap ((x.toNat : Int) + 1) = (y.toNat : Int) := by
  refine ⟨x + 1, ?_⟩
  have h := u8_lt x
  rw [IntKind.wrap_u8, UInt8.toNat_add, show (1 : UInt8).toNat = 1 from rfl]
  omega
theorem flat1 (a : List UInt8) : [a].flatten = a := by simp
end Go.Proofs.YtgkfebbifgkkeaaDoor
