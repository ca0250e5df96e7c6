/- Layer 7 (lex), the document's: the kind of a word; rows of words. -/
import Derived.Test.YtjafbkkdjmlaoaaLxB
set_option linter.unusedVariables false
set_option linter.unusedSimpArgs false
namespace Go.Proofs.Ytjafbkkdjmlaoaa
open Go Go.RowKit

/-- A text of its bytes. -/
theorem sv_tb (s : ByteArray) : sv s = strV (tb s) := by
  cases s
  simp [tb]
theorem sv_part (s : ByteArray) (a n : Nat) : sv (s.extract a (a + n)) = strV (((tb s).drop a).take n) := by
  rw [sv_tb, tb_extract, show a + n - a = n by omega]
/-- A word as it lies in memory. -/
def wdC (x : Wd) : List Value := [.int .u8 (x.1 : Int), strV x.2.1, .int .i64 (x.2.2 : Int)]
theorem wdC_one (l : List Wd) : ∀ u ∈ l.flatMap wdC, u.oneCell' = true := by
  intro u hu
  obtain ⟨x, _, hx⟩ := List.mem_flatMap.1 hu
  simp only [wdC, List.mem_cons, List.not_mem_nil, or_false] at hx
  rcases hx with rfl | rfl | rfl <;> rfl
theorem wdCs_len (l : List Wd) : (l.flatMap wdC).length = l.length * 3 := by
  induction l with
  | nil => rfl
  | cons x l ih => rw [List.flatMap_cons, List.length_append, ih, List.length_cons]; simp [wdC]; omega
theorem wdCs_at {l : List Wd} {i : Nat} {x : Wd} (h : l[i]? = some x) : (l.flatMap wdC)[i * 3]? = some (.int .u8 (x.1 : Int)) ∧ (l.flatMap wdC)[i * 3 + 1]? = some (strV x.2.1) ∧ (l.flatMap wdC)[i * 3 + 2]? = some (.int .i64 (x.2.2 : Int)) := by
  induction l generalizing i with
  | nil => simp at h
  | cons y l ih =>
    rw [List.flatMap_cons]
    cases i with
    | zero =>
      simp only [List.getElem?_cons_zero, Option.some.injEq] at h
      subst h
      exact ⟨rfl, rfl, rfl⟩
    | succ i =>
      rw [List.getElem?_cons_succ] at h
      have := ih h
      refine ⟨?_, ?_, ?_⟩
      · rw [List.getElem?_append_right (by simp [wdC]; omega), show (i + 1) * 3 - (wdC y).length = i * 3 by simp [wdC]; omega]; exact this.1
      · rw [List.getElem?_append_right (by simp [wdC]; omega), show (i + 1) * 3 + 1 - (wdC y).length = i * 3 + 1 by simp [wdC]; omega]; exact this.2.1
      · rw [List.getElem?_append_right (by simp [wdC]; omega), show (i + 1) * 3 + 2 - (wdC y).length = i * 3 + 2 by simp [wdC]; omega]; exact this.2.2
/-- A row of words that is read; one of the call's own. -/
abbrev RdV (w : World) (B : Nat) (A : Option Addr) (n : Nat) (l : List Wd) : Prop := Rd w B 3 A n (l.flatMap wdC)
abbrev OwV (e : TypeId) (w : World) (base : Nat) (A : Option Addr) (c n : Nat) (l : List Wd) : Prop := w.ownsRow base e 3 (.slice A n c) n (l.flatMap wdC)
theorem rdV_len {w : World} {B n : Nat} {A : Option Addr} {l : List Wd} (h : RdV w B A n l) : l.length = n := by
  have := h.1
  rw [wdCs_len] at this
  omega
theorem OwV.rd {e : TypeId} {w : World} {base c n : Nat} {A : Option Addr} {l : List Wd} (h : OwV e w base A c n l) : RdV w w.heap.size A n l := Rd.ofOwn h
theorem OwV.cap {e : TypeId} {w : World} {base c n : Nat} {A : Option Addr} {l : List Wd} (h : OwV e w base A c n l) : n ≤ c := by
  obtain ⟨A1, c1, hv, hl⟩ := ownForm h
  cases hv
  exact hl
theorem rdV_at {w : World} {B n : Nat} {A : Option Addr} {l : List Wd} (h : RdV w B A n l) {i : Nat} (hi : i < n) :
    ∃ b o x, A = some ⟨b, o, none⟩ ∧ b < B ∧ l[i]? = some x ∧ w.cell? ⟨b, o + i * 3, none⟩ = some (.int .u8 (x.1 : Int)) ∧ w.cell? ⟨b, o + i * 3 + 1, none⟩ = some (strV x.2.1) ∧ w.cell? ⟨b, o + i * 3 + 2, none⟩ = some (.int .i64 (x.2.2 : Int)) := by
  obtain ⟨b, o, e, hb, hc⟩ := h.2 (by omega)
  have hl := rdV_len h
  have ht : l[i]? = some (l[i]'(by omega)) := List.getElem?_eq_getElem _
  have h2 := wdCs_at ht
  exact ⟨b, o, _, e, hb, ht, hc _ _ h2.1, hc _ _ h2.2.1, hc _ _ h2.2.2⟩
theorem rWdInfo : (Try.prog.info? 50).map (fun i => (i.zero, i.size, i.bytes)) = some (some (.agg #[.int .u8 0, .string ⟨#[]⟩, .int .i64 0]), 3, 32) := by kernel_rfl
/-- 'out = append(out, word)', over the document's words. -/
theorem appRV {ops : Array Oper} {rest : List Oper} {o : Oper} {a : Act} {Q : Exit → Act → World → Prop} (w : World) (hgd : o.guard = none) (p x : Operand)
    (ho : o.op = .call { callee := .builtin .append, args := #[p, x], argTypes := #[27, 27] })
    (base : Nat) (A0 : Option Addr) (c0 n : Nat) (l : List Wd) (hv : a.eval p = .slice A0 n c0) (hown : OwV 50 w base A0 c0 n l)
    (B : Nat) (A : Option Addr) (m c : Nat) (news : List Wd) (hx : a.eval x = .slice A m c) (hr : RdV w B A m news) (hb : n + m ≤ 1000000000) (hbase : base ≤ w.heap.size)
    (h : ∀ A' c' w', OwV 50 w' base A' c' (n + m) (l ++ news) → Below base w w' → wpList Try.prog ops Q rest (a.put o.dst (.slice A' (n + m) c')) w') : wpList Try.prog ops Q (o :: rest) a w := by
  obtain ⟨i0, hi, hz0, hz1, hz2⟩ := info_parts rWdInfo
  refine wpList_app w hgd p x 27 ho base 50 i0 _ 3 32 Try.underlying27 hi hz0 hz1 hz2 rfl (by decide) _ n _ hv hown B A m c _ hx hr (wdC_one news) (by simp only [maxLen]; omega) (by omega) hbase ?_
  intro A' c' w' e1 e2 e3
  exact h A' c' w' (by show World.ownsRow _ _ _ _ _ _ _; rw [List.flatMap_append]; exact e1) (belowApp (Below.refl _ _) hown e2 hbase)
theorem run_litRV (k : Nat) (t : List UInt8) (p : Nat) (w : World) : (Instr.buildSlice 27 1 #[(0, .agg #[.int .u8 (k : Int), strV t, .int .i64 (p : Int)])]).run Try.prog w = .ok (.slice (some ⟨w.heap.size, 0, none⟩) 1 1) (w.alloc (.cells #[.int .u8 (k : Int), strV t, .int .i64 (p : Int)] 50)) := by
  obtain ⟨i0, hi, hz0, hz1, hz2⟩ := info_parts rWdInfo
  simp [Instr.buildSlice, run_underlying Try.underlying27, sizeOf, typeInfo, zeroValue, hi, hz0, hz1, newRow, Instr.fill]
  kernel_rfl
theorem bk_rdV {w : World} {g : Nat} {t : TypeId} {x : Wd} (hb : Bk w g t (wdC x)) : RdV w (g + 1) (some ⟨g, 0, none⟩) 1 [x] :=
  ⟨rfl, fun _ => ⟨g, 0, rfl, by omega, fun j u hu => by rw [Nat.zero_add, hb.cell]; simpa using hu⟩⟩

set_option maxRecDepth 100000 in
set_option maxHeartbeats 4000000 in
theorem rKind_any (s : ByteArray) (w : World) (hs : 1 ≤ s.size) :
    Calls Try.prog 20 #[sv s] w fun e w' => e = .returned (.int .u8 (kindL (tb s) : Int)) ∧ w = w' := by
  have hlen := tb_len s
  by_cases hn : tb s = [110, 111, 116]
  · have hd : (s.toList == [110, 111, 116]) = true := by rw [ByteArray.toList_eq]; rw [show s.data.toList = [110, 111, 116] from hn]; rfl
    have HK := Lib.hid (show kindL (tb s) = 3 by unfold kindL; rw [if_pos hn])
    clear hn
    go_enter Try.func20, Try.ntmps20
    repeat (first | go_skip | go_guarded | go_step)
    go_ret
    exact ⟨by rw [HK.out]; rfl, rfl⟩
  · have hd : (s.toList == [110, 111, 116]) = false := by rw [ByteArray.toList_eq]; exact beq_false_of_ne hn
    by_cases hn2 : tb s = [115, 97, 121, 115]
    · have hd2 : (s.toList == [115, 97, 121, 115]) = true := by rw [ByteArray.toList_eq]; rw [show s.data.toList = [115, 97, 121, 115] from hn2]; rfl
      have HK := Lib.hid (show kindL (tb s) = 4 by unfold kindL; rw [if_neg hn, if_pos hn2])
      clear hn hn2
      go_enter Try.func20, Try.ntmps20
      repeat (first | go_skip | go_guarded | go_step)
      go_ret
      exact ⟨by rw [HK.out]; rfl, rfl⟩
    · have hd2 : (s.toList == [115, 97, 121, 115]) = false := by rw [ByteArray.toList_eq]; exact beq_false_of_ne hn2
      have h0 : 0 < s.size := by omega
      obtain ⟨x, hx⟩ : ∃ x, s[0]'h0 = x := ⟨_, rfl⟩
      have ht := tb_at h0
      rw [hx, List.drop_zero] at ht
      have hk : kindL (tb s) = if 65 ≤ x.toNat ∧ x.toNat ≤ 90 then 2 else 1 := by
        unfold kindL
        rw [if_neg hn, if_neg hn2, ht]
        rfl
      have HK := Lib.hid hk
      have hci : (0 : Int) < (s.size : Int) := by omega
      clear hn hn2 ht hk hlen
      by_cases h1 : 65 ≤ x.toNat
      · have d1 : decide ((65 : Int) ≤ (x.toNat : Int)) = true := by simp; omega
        by_cases h2 : x.toNat ≤ 90
        · have d2 : decide ((x.toNat : Int) ≤ 90) = true := by simp; omega
          have HK2 := Lib.hid (show kindL (tb s) = 2 by rw [HK.out, if_pos ⟨h1, h2⟩])
          clear h1 h2
          go_enter Try.func20, Try.ntmps20
          repeat (first | go_skip | go_guarded | go_step)
          go_ret
          exact ⟨by rw [HK2.out]; rfl, rfl⟩
        · have d2 : decide ((x.toNat : Int) ≤ 90) = false := by simp; omega
          have HK2 := Lib.hid (show kindL (tb s) = 1 by rw [HK.out, if_neg (by omega)])
          clear h1 h2
          go_enter Try.func20, Try.ntmps20
          repeat (first | go_skip | go_guarded | go_step)
          go_ret
          exact ⟨by rw [HK2.out]; rfl, rfl⟩
      · have d1 : decide ((65 : Int) ≤ (x.toNat : Int)) = false := by simp; omega
        have HK2 := Lib.hid (show kindL (tb s) = 1 by rw [HK.out, if_neg (by omega)])
        clear h1
        go_enter Try.func20, Try.ntmps20
        repeat (first | go_skip | go_guarded | go_step)
        go_ret
        exact ⟨by rw [HK2.out]; rfl, rfl⟩
end Go.Proofs.Ytjafbkkdjmlaoaa
