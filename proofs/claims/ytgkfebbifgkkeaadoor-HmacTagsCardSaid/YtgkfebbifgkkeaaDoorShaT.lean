/- Layer 2 (sha): tags that are compared, a tag as hex, a row that is stored whole. -/
import Derived.Test.YtgkfebbifgkkeaaDoorShaK
import Derived.Lib.SlBytesConst
import Derived.Stop.BytesEq
import Derived.Deep.WholeRow
set_option linter.unusedVariables false
set_option linter.unusedSimpArgs false
namespace Go.Proofs.YtgkfebbifgkkeaaDoor
open Go Go.RowKit

def zero32 : List UInt8 := List.replicate 32 0
theorem eqT (xs ys : List UInt8) (hx : xs.length = 32) (hy : ys.length = 32) (w : World) :
    (Op.equalIn 10000 28 (.agg (xs.map bv).toArray) (.agg (ys.map bv).toArray)).run Tryd.prog w = .ok (xs == ys) w :=
  run_equalIn_bytes w 9998 28 5 32 Tryd.underlying28 Tryd.underlying5 (fun w => by kernel_rfl) xs ys hx hy
theorem eqTag (bs : List UInt8) (w : World) :
    (Op.equalIn 10000 28 (.agg ((shaL bs).map bv).toArray) (.agg ((shaL bs).map bv).toArray)).run Tryd.prog w = .ok true w := by
  rw [eqT _ _ (shaL_len bs) (shaL_len bs)]
  simp
theorem eqZ (w : World) : (Op.equalIn 10000 28 (.agg (zB 32).toArray) (.agg (zB 32).toArray)).run Tryd.prog w = .ok true w := by
  have h := eqT zero32 zero32 rfl rfl w
  rw [show zero32.map bv = zB 32 from rfl] at h
  rw [h]
  simp
theorem eqZ2 (w : World) : (Op.equalIn 10000 28 (.agg (zB 32).toArray) (.agg #[.int .u8 0, .int .u8 0, .int .u8 0, .int .u8 0, .int .u8 0, .int .u8 0, .int .u8 0, .int .u8 0, .int .u8 0, .int .u8 0, .int .u8 0, .int .u8 0, .int .u8 0, .int .u8 0, .int .u8 0, .int .u8 0, .int .u8 0, .int .u8 0, .int .u8 0, .int .u8 0, .int .u8 0, .int .u8 0, .int .u8 0, .int .u8 0, .int .u8 0, .int .u8 0, .int .u8 0, .int .u8 0, .int .u8 0, .int .u8 0, .int .u8 0, .int .u8 0])).run Tryd.prog w = .ok true w := eqZ w
theorem run_const8 (W : World) (H : Nat) (C : Array Value) (n c : Nat) (h : W.heap.size = H) :
    (convert 22 22 (.slice (some ⟨H, 0, none⟩) n c)).run Tryd.prog (W.alloc (.cells C 5)) = .ok (.slice (some ⟨H, 0, none⟩) n c) (W.alloc (.cells C 5 (C.size, C.size + 1))) := by
  subst h
  exact Lib.run_convert_bytes_const (P := Tryd.prog) W 22 5 C n c Tryd.underlying22 Tryd.underlying5

theorem hexV (bs : List UInt8) (g : Nat) (w : World) (h : Bk w g 28 ((shaL bs).map bv)) (hx : List UInt8) (he : hexL (shaL bs) = hx) :
    Calls Tryd.prog 16 #[.slice (some ⟨g, 0, none⟩) 32 32] w fun e w' => e = .returned (.string ⟨hx.toArray⟩) ∧ ∃ m, w' = w.drewN m := by
  have hr := h.rd 32 (by simp [shaL_len])
  rw [List.take_of_length_le (by simp [shaL_len])] at hr
  rw [← he]
  exact hex_any _ 32 32 (shaL bs) w hr (by omega)

/-- A whole row into the block that was made last. -/
theorem wpList_store_new {P : Program} {ops : Array Oper} {rest : List Oper} {o : Oper} {a : Act} {Q : Exit → Act → World → Prop} (hgd : o.guard = none) (ty : TypeId) (x y : Operand) (ho : o.op = .store ty x y)
    (W : World) (c cells : Array Value) (hx : a.eval x = .pointer (some ⟨W.heap.size, 0, none⟩)) (hy : a.eval y = .agg cells)
    (hi : (P.info? ty).map (·.size) = some cells.size) (hold : c.size = cells.size) (h1 : cells.all (·.oneCell') = true)
    (h : wpList P ops Q rest (a.put o.dst undef) (W.alloc (.cells cells ty))) : wpList P ops Q (o :: rest) a (W.alloc (.cells c ty)) := by
  refine wpList_store_row hgd ty x y ho W.heap.size cells hx hy ty c (heap_alloc_new W _) hi hold h1 ?_
  rw [World.setRow_alloc_new]
  exact h
theorem tagSize (bs : List UInt8) : (Tryd.prog.info? 28).map (·.size) = some ((shaL bs).map bv).toArray.size := by
  rw [List.size_toArray, List.length_map, shaL_len]
  kernel_rfl
theorem tagOne (bs : List UInt8) : ((shaL bs).map bv).toArray.all (·.oneCell') = true := by simp [bv, Value.oneCell']

end Go.Proofs.YtgkfebbifgkkeaaDoor
