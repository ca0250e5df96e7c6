/- Layer 11 (safe), the landed program: the literals of a clause, gone through by a function that loops range over. -/
import Derived.Test.YtggnhgfickkgdaaSfM
import Derived.RangeFuncNested
import Derived.RangeFuncBound
import Derived.RangeFuncCalls
import Derived.RangeFuncLeaves
import Derived.Shelf.Abstract
import Derived.Shelf.RegionOpen
import Derived.WalkKit
import Derived.OwnWalkIn
import Derived.TacticsInMore
import Derived.LoopNIn
import Derived.LoopIn
set_option linter.unusedVariables false
set_option linter.unusedSimpArgs false
namespace Go.Proofs.Ytggnhgfickkgdaa
open Go Go.RowKit Go.Shelf
attribute [local go_sem] Oper.semAt_some

/-- What is yielded of a clause: all its atoms, each with whether it holds its variables. -/
def litE (p : UInt32) (s : SlA) (R : List SlA) (L : List Li) : List (Array Value) :=
  #[.agg #[nv p, s.val], .bool false] :: (L.zip R).map fun z => #[.agg #[nv z.1.2.1, z.2.val], .bool (!z.1.1)]
theorem literals_any (p : UInt32) (A : Option Addr) (n c : Nat) (A1 : Option Addr) (n1 c1 : Nat) (w : World) :
    Calls Try.prog 30 #[.agg #[nv p, .slice A n c, .slice A1 n1 c1]] w fun e w' => e = .returned (.func (.func 34) #[] #[.pointer (some ⟨w.heap.size, 0, none⟩)]) ∧ w' = w.alloc (.cells #[nv p, .slice A n c, .slice A1 n1 c1] 36) := by
  go_enter Try.func30, Try.ntmps30
  repeat (first | go_skip | go_guarded | go_step)
  go_ret
  exact ⟨rfl, rfl⟩
set_option maxRecDepth 100000 in
set_option maxHeartbeats 4000000 in
theorem lit1_in (F : Fence) (n : Nat) (hf : F.fn 34) (hro : F.round = none) (hn : 1 ≤ n) {α : Type} (encs : α → Array Value) (items : List α) (G : Nat → Prop)
    (p : UInt32) (A : Option Addr) (n0 c : Nat) (A1 : Option Addr) (n1 c1 : Nat) (R : List SlA) (L : List Li) (hit : items.map encs = litE p (A, n0, c) R L)
    (l Bn B : Nat) (hG : ¬ G Bn) (hGB : ∀ k, k < B → ¬ G k) (hBn1 : n1 ≤ 1000000) (J Jx : List α → World → Prop) (W : World) (hJ : AbidesFrom W.heap.size J)
    (hY : ∀ pre x W1, J pre W1 → pre.length < items.length → YieldAt F (n - 1) Try.prog l (encs x) W1 fun e W' =>
      (e = .returned (.bool true) ∧ J (pre ++ [x]) W' ∧ Turn G W1 W') ∨ (e = .returned (.bool false) ∧ Jx (pre ++ [x]) W'))
    (hBn : Bk W Bn 36 [nv p, .slice A n0 c, .slice A1 n1 c1]) (hB : B ≤ W.heap.size) (hR : RdL W B A1 n1 R L) (h0 : J [] W) :
    CallsIn F n Try.prog 34 #[.func (.yield l) #[] #[], .pointer (some ⟨Bn, 0, none⟩)] W fun e W' => (∃ v, e = .returned v) ∧
      ((∃ ys, ys = items ∧ J ys W') ∨ (∃ pre, pre <+: items ∧ Jx pre W')) := by
  have hlen : items.length = n1 + 1 := by
    have := congrArg List.length hit
    simp only [litE, List.length_map, List.length_cons, List.length_zip, hR.lenL, hR.lenR] at this
    omega
  have HIT := Lib.hid hit
  have HLEN := Lib.hid hlen
  obtain ⟨x0, hx0⟩ : ∃ x0, items[0]? = some x0 := ⟨_, List.getElem?_eq_getElem (by omega)⟩
  have he0 : encs x0 = #[.agg #[nv p, .slice A n0 c], .bool false] := by
    have := congrArg (fun l => l[0]?) hit
    simp only [List.getElem?_map, hx0, litE] at this
    simpa using this
  have HX0 := Lib.hid hx0
  have k0 := hBn.cell 0
  have k1 := hBn.cell 1
  simp only [List.getElem?_cons_zero, List.getElem?_cons_succ] at k0 k1
  obtain ⟨fn, tmps, assign, body, hy, hRd⟩ := hY [] x0 W h0 (by simp; omega)
  rw [he0] at hy
  have HB0 := Lib.hid hBn
  have HR0 := Lib.hid hR
  clear hit hlen hx0 he0 hBn hR
  refine callsIn_of_wp Try.func34 rfl hf ?_ hro
  simp only [Try.ntmps34, List.size_toArray, List.length_cons, List.length_nil, Nat.reduceAdd, Nat.reduceSub, Array.replicate_succ, Array.replicate_zero, List.push_toArray, List.append_toArray, List.nil_append, List.cons_append]
  gi_wp2
  refine hRd.mono ?_
  rintro e W3 (⟨rfl, hJ3, hk3⟩ | ⟨rfl, hJx3⟩)
  · have k2 := (hk3.bk HB0.out hG).cell 2
    simp only [List.getElem?_cons_zero, List.getElem?_cons_succ] at k2
    have HJ3 := Lib.hid (show J (items.take 1) W3 by rw [List.take_add_one, HX0.out]; exact hJ3)
    have HK3 := Lib.hid hk3
    clear hJ3 hk3 k0 k1 hy hRd
    gi_wp2
    clear k2
    gi_loopw [13] (fun q wr => ∃ k : Nat, k ≤ n1 ∧ q = .int .i64 (k : Int) ∧ J (items.take (k + 1)) wr ∧ RdL wr B A1 n1 R L ∧ W.heap.size ≤ wr.heap.size) (fun q _ => n1 - (intOf q).toNat)
    case atStart => exact ⟨0, by omega, rfl, HJ3.out, ⟨HR0.out.lenR, HR0.out.lenL, HK3.out.rd HR0.out.top hB hGB, fun i r x h1 h2 => HK3.out.rd (HR0.out.row i r x h1 h2) hB hGB⟩, HK3.out.size⟩
    case round =>
      obtain ⟨k, hk, rfl, hJk, hrk, hsz⟩ := hrel
      have HJK := Lib.hid hJk
      have HRK := Lib.hid hrk
      clear hJk hrk
      by_cases hlt : k < n1
      · have hci : (k : Int) < (n1 : Int) := by omega
        obtain ⟨b3, o3, g3, p3, l3, Ai, ni, ci, hA1, hb3, hx3, hr3, hd0, hd1, hd2, hrow⟩ := HRK.out.at2 hlt
        subst hA1
        obtain ⟨x, hx⟩ : ∃ x, items[k + 1]? = some x := ⟨_, List.getElem?_eq_getElem (by have := HLEN.out; omega)⟩
        have hz : (L.zip R)[k]? = some ((g3, p3, l3), (Ai, ni, ci)) := by
          rw [List.getElem?_zip_eq_some]
          exact ⟨hx3, hr3⟩
        have he : encs x = #[.agg #[nv p3, .slice Ai ni ci], .bool (!g3)] := by
          have := congrArg (fun l => l[k + 1]?) HIT.out
          simp only [List.getElem?_map, hx, litE, List.getElem?_cons_succ, hz] at this
          simpa using this
        obtain ⟨U, hU, hTU⟩ : ∃ U, U = wr.alloc (.cells #[.bool g3, nv p3, .slice Ai ni ci] 38) ∧ Turn G wr U := ⟨_, rfl, (Turn.refl G wr).alloc _⟩
        have hJU : J (items.take (k + 1)) U := by
          rw [hU]
          exact hJ _ _ _ none HJK.out (World.grownBy_alloc wr _ none) (fun r e => by cases e)
        obtain ⟨fn, tmps, assign, body, hy, hRd⟩ := hY (items.take (k + 1)) x U hJU (by rw [List.length_take]; have := HLEN.out; omega)
        rw [he, hU] at hy
        rw [hU] at hRd
        have HTU := Lib.hid (show Turn G wr (wr.alloc (.cells #[.bool g3, nv p3, .slice Ai ni ci] 38)) by rw [← hU]; exact hTU)
        have HX := Lib.hid (show items.take (k + 1 + 1) = items.take (k + 1) ++ [x] by rw [List.take_add_one, hx]; rfl)
        have hBw : B ≤ wr.heap.size := Nat.le_trans hB hsz
        clear hJU hU hTU hx3 hr3 hz he hx hrow
        gi_wp2
        refine hRd.mono ?_
        rintro e W4 (⟨rfl, hJ4, hk4⟩ | ⟨rfl, hJx4⟩)
        · have HJ4 := Lib.hid hJ4
          have HK4 := Lib.hid (HTU.out.trans hk4)
          clear hJ4 hk4 hy hRd hd0 hd1 hd2
          gi_wp2
          go_roundw
          case rel => exact ⟨k + 1, by omega, by go_num, by rw [HX.out]; exact HJ4.out, ⟨HRK.out.lenR, HRK.out.lenL, HK4.out.rd HRK.out.top hBw hGB, fun i r x h1 h2 => HK4.out.rd (HRK.out.row i r x h1 h2) hBw hGB⟩, Nat.le_trans hsz HK4.out.size⟩
          case measure => simp [intOf]; omega
        · clear hy hRd hd0 hd1 hd2
          gi_wp2
          refine bodyPost_ret (results_none rfl _ _ _) rfl ?_
          exact ⟨⟨_, rfl⟩, .inr ⟨_, by rw [← HX.out]; exact List.take_prefix _ _, hJx4⟩⟩
      · obtain rfl : n1 = k := by omega
        have hci : ¬ (n1 : Int) < (n1 : Int) := by omega
        have HJE := Lib.hid (show J items wr by have := HJK.out; rwa [List.take_of_length_le (by have := HLEN.out; omega)] at this)
        gi_wp2
        go_end0
        exact ⟨⟨_, rfl⟩, .inl HJE.out⟩
  · clear k0 k1 hy hRd
    gi_wp2
    refine bodyPost_ret (results_none rfl _ _ _) rfl ?_
    exact ⟨⟨_, rfl⟩, .inr ⟨_, by rw [List.nil_append, show [x0] = items.take 1 by rw [List.take_add_one, HX0.out]; rfl]; exact List.take_prefix _ _, hJx3⟩⟩
theorem lit_stops (F : Fence) (n : Nat) (hf : F.fn 34) (hro : F.round = none) (hn : 1 ≤ n) {α : Type} (encs : α → Array Value) (items : List α) (G : Nat → Prop)
    (p : UInt32) (A : Option Addr) (n0 c : Nat) (A1 : Option Addr) (n1 c1 : Nat) (R : List SlA) (L : List Li) (hit : items.map encs = litE p (A, n0, c) R L)
    (Bn B : Nat) (hG : ¬ G Bn) (hGB : ∀ k, k < B → ¬ G k) (hBn1 : n1 ≤ 1000000) (w : World) (hB : B ≤ w.heap.size)
    (hBn : Bk w Bn 36 [nv p, .slice A n0 c, .slice A1 n1 c1]) (hR : RdL w B A1 n1 R L) :
    SeqStopsK F n Try.prog 34 #[.pointer (some ⟨Bn, 0, none⟩)] encs (Turn G) (fun ys => ys = items) (fun pre => pre <+: items) items.length w := fun l J Jx W hW hJ _ hY h0 =>
  lit1_in F n hf hro hn encs items G p A n0 c A1 n1 c1 R L hit l Bn B hG hGB hBn1 J Jx W hJ hY (hBn.later hW) (Nat.le_trans hB hW.size) (hR.below (hW.mono hB)) h0
end Go.Proofs.Ytggnhgfickkgdaa
