/- RingPlays: whatever the input, the law returns true (each answer of the ring, and all keys, are the document's), and the input reads as it did. No condition beside what is asked of the package (RingOk). -/
import Derived.Test.YtedgigoelhcfnaaRnF
import Derived.Deep.RegionWith
import Derived.Deep.DeepCutAuto
import Derived.Deep.RegionHeld2
import Derived.Test.YtedgigoelhcfnaaRows
set_option linter.unusedVariables false
set_option linter.unusedSimpArgs false
namespace Go.Proofs.Ytedgigoelhcfnaa.ringPlays
open Go Go.RowKit Go.ChangeShapes Go.WideShapes Go.ChangeAt

theorem b8Info : (Try.prog.info? 5).map (fun i => (i.zero, i.size, i.bytes)) = some (some (.int .u8 0), 1, 1) := by kernel_rfl
theorem appB {ops : Array Oper} {rest : List Oper} {o : Oper} {a : Act} {Q : Exit → Act → World → Prop} (w : World) (hgd : o.guard = none) (p x : Operand)
    (ho : o.op = .call { callee := .builtin .append, args := #[p, x], argTypes := #[32, 32] })
    (base : Nat) (A0 : Option Addr) (c0 : Nat) (hv : a.eval p = .slice A0 0 c0) (hown : w.ownsRow base 5 1 (.slice A0 0 c0) 0 [])
    (B : Nat) (A : Option Addr) (m c : Nat) (k : List UInt8) (hx : a.eval x = .slice A m c) (hr : Rd w B 1 A m (k.map bv)) (hb : m ≤ 1000000000) (hbase : base ≤ w.heap.size)
    (h : ∀ A' c' w', w'.ownsRow base 5 1 (.slice A' m c') m (k.map bv) → Below base w w' → wpList Try.prog ops Q rest (a.put o.dst (.slice A' m c')) w') : wpList Try.prog ops Q (o :: rest) a w := by
  obtain ⟨i0, hi, hz0, hz1, hz2⟩ := info_parts b8Info
  refine wpList_app w hgd p x 32 ho base 5 i0 _ 1 1 Try.underlying32 hi hz0 hz1 hz2 rfl (by decide) _ 0 _ hv hown B A m c _ hx hr (bv_one k) (by simp only [maxLen]; omega) (by omega) hbase ?_
  intro A' c' w' h4 h2 h3
  rw [Nat.zero_add, List.nil_append] at h4
  rw [Nat.zero_add]
  exact h A' c' w' h4 (belowApp (Below.refl _ _) hown h2 hbase)
theorem turn1R (V : World) (g i : Nat) (v : Value) : Turn (fun k => k = g) V (V.setCell ⟨g, i, none⟩ v) := Turn.setCell (p := ⟨g, i, none⟩) (Turn.refl (fun k => k = g) V) (fun _ => rfl) v
def i8 (z : Int) : Value := .int .u8 z
theorem ownI_set {w : World} {base c n : Nat} {A : Option Addr} {Y : List Int} (h : w.ownsRow base 5 1 (.slice A n c) n (Y.map i8)) {i : Nat} (hi : i < n) :
    ∃ g y, A = some ⟨g, 0, none⟩ ∧ base ≤ g ∧ w.cell? ⟨g, i, none⟩ = some (.int .u8 y) ∧ w.frozen? ⟨g, i, none⟩ = false ∧ ∀ z, ∃ Y' : List Int, (w.setCell ⟨g, i, none⟩ (.int .u8 z)).ownsRow base 5 1 (.slice A n c) n (Y'.map i8) := by
  have hl : Y.length = n := by have := h.1; simpa using this
  rcases h.2 with ⟨_, h0⟩ | ⟨g, cap, cur, hv, hb, hg, h1, h2, h3, h4⟩
  · omega
  · cases hv
    have hbk : Bk w g 5 (Y.map i8 ++ cur.toList.drop (n * 1)) := by
      unfold Bk
      rw [← h4, List.take_append_drop]
      exact hg
    refine ⟨g, Y[i]'(by omega), rfl, hb, ?_, hbk.frozen i, fun z => ⟨Y.set i z, by simp [hl], .inr ⟨g, c, ((Y.set i z).map i8 ++ cur.toList.drop (n * 1)).toArray, rfl, hb, ?_, h1, h2, ?_, ?_⟩⟩⟩
    · rw [hbk.cell, List.getElem?_append_left (by simp; omega), List.getElem?_map, List.getElem?_eq_getElem (by omega)]
      rfl
    · have h5 := hbk.set_ i (i8 z)
      rw [List.set_append_left _ _ (by simp; omega), ← List.map_set] at h5
      exact h5
    · have h5 : cur.toList.length = c := by simpa using h3
      simp only [List.size_toArray, List.length_append, List.length_map, List.length_set, List.length_drop, h5]
      omega
    · have h7 : ((Y.set i z).map i8).length = n := by simp [hl]
      simp only [Nat.mul_one, List.toList_toArray]
      rw [List.take_append_of_le_length (by omega), List.take_of_length_le (by omega)]
theorem ownB_cap {w : World} {base c n : Nat} {A : Option Addr} {xs : List Value} (h : w.ownsRow base 5 1 (.slice A n c) n xs) : n ≤ c := by
  rcases h.2 with ⟨hv, h0⟩ | ⟨g, cap, cur, hv, hb, hg, h1, h2, h3, h4⟩
  · omega
  · cases hv
    exact h1
theorem ownB_rd {w : World} {base c n : Nat} {A : Option Addr} {k : List UInt8} (h : w.ownsRow base 5 1 (.slice A n c) n (k.map bv)) : Rd w w.heap.size 1 A n (k.map bv) := by
  have hl : k.length = n := by have := h.1; simpa using this
  refine ⟨by simp [hl], fun h0 => ?_⟩
  rcases h.2 with ⟨_, h0⟩ | ⟨g, cap, cur, hv, hb, hg, h1, h2, h3, h4⟩
  · omega
  · cases hv
    have hbk : Bk w g 5 (k.map bv ++ cur.toList.drop (n * 1)) := by
      unfold Bk
      rw [← h4, List.take_append_drop]
      exact hg
    refine ⟨g, 0, rfl, hbk.lt, fun j u hu => ?_⟩
    have hj : j < (k.map bv).length := (List.getElem?_eq_some_iff.1 hu).1
    rw [Nat.zero_add, hbk.cell, List.getElem?_append_left hj]
    exact hu
theorem ownB_int {w : World} {base c n : Nat} {A : Option Addr} {k : List UInt8} (h : w.ownsRow base 5 1 (.slice A n c) n (k.map bv)) : ∃ Y : List Int, w.ownsRow base 5 1 (.slice A n c) n (Y.map i8) :=
  ⟨k.map fun b => (b.toNat : Int), by rw [List.map_map]; exact h⟩
theorem rdTurn {G : Nat → Prop} {w w' : World} {B s n : Nat} {A : Option Addr} {xs : List Value} (hr : Rd w B s A n xs) (T : Turn G w w') (hB : B ≤ w.heap.size) (hn : ∀ k, A.map (·.block) = some k → ¬ G k) : Rd w' B s A n xs :=
  ⟨hr.1, fun hp => by
    obtain ⟨b, o, e, hb, hc⟩ := hr.2 hp
    exact ⟨b, o, e, hb, fun j u hu => (T.cell (p := ⟨b, o + j, none⟩) (Nat.lt_of_lt_of_le hb hB) (hn b (by rw [e]; rfl))).trans (hc j u hu)⟩⟩
set_option maxRecDepth 100000 in
set_option maxHeartbeats 4000000 in
theorem rKey2_any (base b : Nat) (A : Option Addr) (c : Nat) (K : List RgE) (u : UInt32) (w : World) (h : Rf w base b A c K) (hg : RgGood K) :
    Calls Try.prog 14 #[.pointer (some ⟨b, 0, none⟩), nr u] w fun e w' => ∃ (A' : Option Addr) (n c' : Nat), e = .returned (.tuple #[.slice A' n c', .bool (rgAt K u).isSome]) ∧ Rd w' w'.heap.size 1 A' n ((rgKey K u).map bv) ∧ Below w.heap.size w w' ∧ (∀ k, A'.map (·.block) = some k → w.heap.size ≤ k) := by
  have hpl := rPlace_any base b A c K u w h (Nat.le_trans hg.len (by omega))
  have k0 := h.box.cell 0
  simp only [List.getElem?_cons_zero] at k0
  obtain ⟨m, hm⟩ : ∃ m, m = K.length := ⟨_, rfl⟩
  rw [← hm] at k0
  have hm32 : m ≤ 32 := by rw [hm]; exact hg.len
  rcases rgIx_cases K u with ⟨hix, hat⟩ | ⟨j, x, hx, hxu, hix, hat⟩
  · rw [hix] at hpl
    have HA := Lib.hid hat
    clear hix hat h hg hm
    go_enter Try.func14, Try.ntmps14
    repeat (first | go_skip | go_guarded | go_step)
    refine hpl.mono ?_
    rintro e w2 ⟨rfl, hw⟩
    rw [hw]
    clear hw hpl
    dsimp only
    repeat (first | go_skip | go_guarded | go_step)
    go_ret2
    exact ⟨none, 0, 0, by rw [HA.out]; rfl, by unfold rgKey; rw [HA.out]; exact Rd.nil, Below.refl _ _, fun k hk => by cases hk⟩
  · rw [hix] at hpl
    have hjm : j < m := by rw [hm]; exact (List.getElem?_eq_some_iff.1 hx).1
    have hown := h.own
    rw [← hm] at hown
    obtain ⟨b1, o1, x', hA, hb1, hx', hc0, hc1⟩ := rdEn_at hown.rd hjm
    rw [hx] at hx'
    obtain rfl := Option.some.inj hx'
    have hj0 : ¬ (j : Int) < 0 := by omega
    have hj1 : (0 : Int) ≤ (j : Int) := by omega
    have hjmi : (j : Int) < (m : Int) := by omega
    have HA := Lib.hid hat
    have hcv := Lib.run_convert_string_bytes (P := Try.prog) w 9 32 5 (bsOf x.2) Try.underlying9 Try.underlying32 Try.underlying5
    rw [bsOf_size] at hcv
    have hbu := bytesBelow w 5 (bsOf x.2)
    have hrd := bytesRd w 5 x.2
    generalize Lib.bytesWorld w 5 (bsOf x.2) = U at hcv hbu hrd
    generalize grownCap w x.2.length 0 5 = C at hcv
    have HBU := Lib.hid hbu
    have HRD := Lib.hid hrd
    subst hA
    clear hix hat h hg hm hx hxu hown hb1 hbu hrd hx'
    go_enter Try.func14, Try.ntmps14
    repeat (first | go_skip | go_guarded | go_step)
    refine hpl.mono ?_
    rintro e w2 ⟨rfl, hw⟩
    rw [hw]
    clear hw hpl
    dsimp only
    repeat (first | go_skip | go_guarded | go_step)
    go_ret2
    exact ⟨_, x.2.length, C, by rw [HA.out]; rfl, by unfold rgKey; rw [HA.out]; exact HRD.out, HBU.out, fun k hk => by obtain rfl := Option.some.inj hk; exact Nat.le_refl _⟩
/-- The two rings, told alike. -/
structure Two (Rg : World → Nat → (Nat → Prop) → List RgE → Prop) (w0 : World) (a b : Nat) (w : World) (G : Nat → Prop) (A : Option Addr) (c : Nat) (K : List RgE) : Prop where
  rg : Rg w a G K
  rf : Rf w w0.heap.size b A c K
  base : ∀ x, G x → w0.heap.size ≤ x
  nb : ¬ G b
  na : ∀ x, A.map (·.block) = some x → ¬ G x
  below : Below w0.heap.size w0 w
section
variable {Rg : World → Nat → (Nat → Prop) → List RgE → Prop} {w0 w w' : World} {a b c c' : Nat} {G G' : Nat → Prop} {A A' : Option Addr} {K K' : List RgE}
/-- A call of the program's. -/
theorem Two.prog (h : Two Rg w0 a b w G A c K) (hr : Rg w' a G' K) (T : Turn G w w') (hG : ∀ x, G' x → G x ∨ w.heap.size ≤ x) : Two Rg w0 a b w' G' A c K :=
  ⟨hr, h.rf.turn T h.nb h.na, fun x hx => (hG x hx).elim (h.base x) (fun q => Nat.le_trans h.below.size q), fun hx => (hG b hx).elim h.nb (fun q => by have := h.rf.box.lt; omega),
    fun x hx hg => (hG x hg).elim (h.na x hx) (fun q => by have := (h.rf.own.low hx).2; omega), h.below.trans (T.below (fun k _ hk => h.base k hk) h.below.size)⟩
theorem Two.later (ok : RingOk Rg) (h : Two Rg w0 a b w G A c K) (hb : Below w.heap.size w w') : Two Rg w0 a b w' G A c K :=
  ⟨ok.later h.rg hb, h.rf.later hb, h.base, h.nb, h.na, h.below.trans (hb.mono h.below.size)⟩
/-- Something else was turned, that is neither's. -/
theorem Two.other (ok : RingOk Rg) (h : Two Rg w0 a b w G A c K) {H : Nat → Prop} (T : Turn H w w') (h1 : ∀ k, H k → w0.heap.size ≤ k) (h2 : ∀ k, H k → ¬ G k) (h3 : ¬ H b) (h4 : ∀ x, A.map (·.block) = some x → ¬ H x) : Two Rg w0 a b w' G A c K :=
  ⟨ok.keep h.rg T (fun k hk hh => h2 k hh hk), h.rf.turn T h3 h4, h.base, h.nb, h.na, h.below.trans (T.below (fun k _ hk => h1 k hk) h.below.size)⟩
/-- A call of the program's, and behind it one of the document's. -/
theorem Two.both (ok : RingOk Rg) (h : Two Rg w0 a b w G A c K) {w1 w2 : World} (hr : Rg w1 a G' K') (T : Turn G w w1) (hG : ∀ x, G' x → G x ∨ w.heap.size ≤ x)
    (hf : Rf w2 w0.heap.size b A' c' K') (T2 : Turn (fun x => x = b ∨ A.map (·.block) = some x) w1 w2) (hA : ∀ x, A'.map (·.block) = some x → A.map (·.block) = some x ∨ w1.heap.size ≤ x) : Two Rg w0 a b w2 G' A' c' K' := by
  have hb1 : Below w0.heap.size w0 w1 := h.below.trans (T.below (fun k _ hk => h.base k hk) h.below.size)
  have nb : ¬ G' b := fun hx => (hG b hx).elim h.nb (fun q => by have := h.rf.box.lt; omega)
  have na : ∀ x, A.map (·.block) = some x → ¬ G' x := fun x hx hg => (hG x hg).elim (h.na x hx) (fun q => by have := (h.rf.own.low hx).2; omega)
  have hlow := ok.low hr
  refine ⟨ok.keep hr T2 (fun k hk hh => ?_), hf, fun x hx => (hG x hx).elim (h.base x) (fun q => Nat.le_trans h.below.size q), nb, fun x hx hg => ?_, hb1.trans (T2.below (fun k _ hk => ?_) hb1.size)⟩
  · rcases hh with e | e
    · exact nb (e ▸ hk)
    · exact na k e hk
  · rcases hA x hx with q | q
    · exact na x q hg
    · have := hlow x hg; omega
  · rcases hk with e | e
    · rw [e]; exact h.rf.hb
    · exact (h.rf.own.low e).1
end
set_option maxRecDepth 100000 in
set_option maxHeartbeats 16000000 in
theorem walkAll {Rg : World → Nat → (Nat → Prop) → List RgE → Prop} (ok : RingOk Rg) (A : Option Addr) (n c : Nat) (Z : List StE) (w : World) (hr : RdSt w w.heap.size A n Z) (hnc : n ≤ c) (hm : c ≤ maxLen) :
    Calls Try.prog 3 #[.slice A n c] w fun e w' => e = .returned (.bool true) ∧ Below w.heap.size w w' := by
  have WK := Lib.hid (rWorks_of ok)
  have OK := Lib.hid ok
  have hfew := fewS_any A n c Z w hr
  have HX := Lib.hid hr
  clear hr ok
  cases hb : fewS Z with
  | false =>
    rw [hb] at hfew
    clear hb
    go_enter Try.func3, Try.ntmps3
    repeat (first | go_skip | go_guarded | go_step)
    refine hfew.mono ?_
    rintro e w2 ⟨rfl, hw⟩
    rw [hw]
    clear hw hfew
    dsimp only
    repeat (first | go_skip | go_guarded | go_step)
    refine (WK.out _).mono ?_
    rintro e wz ⟨rfl, hbz⟩
    have HBZ := Lib.hid (hbz)
    clear hbz
    dsimp only
    repeat (first | go_skip | go_guarded | go_step)
    go_ret
    exact ⟨rfl, HBZ.out⟩
  | true =>
    rw [hb] at hfew
    have HFEW := Lib.hid (fewS_iff.1 hb)
    have hn200 : n ≤ 200 := by rw [← HX.out.len]; exact HFEW.out.1
    have hnew := OK.out.new_ w
    clear hb
    go_enter Try.func3, Try.ntmps3
    repeat (first | go_skip | go_guarded | go_step)
    refine hfew.mono ?_
    rintro e w2 ⟨rfl, hw⟩
    rw [hw]
    clear hw hfew
    dsimp only
    repeat (first | go_skip | go_guarded | go_step)
    refine hnew.mono ?_
    rintro e w1 ⟨a, G0, rfl, hrg0, hG0, hb1⟩
    obtain ⟨W0, hW0, hbk0, hbw0⟩ : ∃ W0, W0 = w1.alloc (.cells #[.slice none 0 0] 30) ∧ Bk W0 w1.heap.size 30 [.slice none 0 0] ∧ Below w1.heap.size w1 W0 := ⟨_, rfl, Bk.new w1 _ _, (Below.refl _ _).alloc (Nat.le_refl _) _⟩
    have HW0 := Lib.hid hW0
    obtain ⟨b, hbb⟩ : ∃ b, b = w1.heap.size := ⟨_, rfl⟩
    have HTW := Lib.hid (show Two Rg w a b W0 G0 none 0 [] from ⟨OK.out.later hrg0 hbw0, ⟨by rw [hbb]; exact hbk0, World.ownsRow_nil _ _ _ _, by rw [hbb]; exact hb1.size, fun e => by cases e⟩, hG0, fun hg => by have := OK.out.low hrg0 b hg; omega, fun x hx => (by cases hx), hb1.trans (hbw0.mono hb1.size)⟩)
    have HBB := Lib.hid hbb
    clear hnew hrg0 hG0 hb1 hW0 hbk0 hbw0
    dsimp only
    go_upto_region 5 with (fail)
    rw [← HW0.out]
    rw [← HBB.out]
    have HBE := Lib.hid hbb
    clear hbb
    repeat (first | go_skip | go_guarded | go_step)
    go_loopw [5] (fun q wr => ∃ (i : Nat) (G : Nat → Prop) (Ab : Option Addr) (cb : Nat) (K : List RgE), i ≤ n ∧ q = .int .i64 (i : Int) ∧ Two Rg w a b wr G Ab cb K) (fun q _ => n - (intOf q).toNat)
    case atStart => exact ⟨0, G0, none, 0, [], by omega, rfl, HTW.out⟩
    case round =>
      rename World => wr
      obtain ⟨i, G, Ab, cb, K, hi, rfl, htw⟩ := hrel
      have HTW := Lib.hid htw
      clear htw
      by_cases hlt : i < n
      · have hci : (i : Int) < (n : Int) := by omega
        have hi0 : (0 : Int) ≤ (i : Int) := by omega
        obtain ⟨b1, o, d, u, k, Ak, nk, ck, hA, hb, hz, hc0, hc1, hc2, hrk, hkl, hnck⟩ := (HX.out.below HTW.out.below).at_ hlt
        have hk300 : nk ≤ 300 := by have := HFEW.out.2 _ (List.mem_of_getElem? hz); dsimp only at this; omega
        have HCELL := Lib.hid (show ∀ V, Below w.heap.size wr V → V.cell? ⟨b1, o + i * 3, none⟩ = some (.bool d) ∧ V.cell? ⟨b1, o + i * 3 + 1, none⟩ = some (nr u) ∧ V.cell? ⟨b1, o + i * 3 + 2, none⟩ = some (.slice Ak nk ck) from fun V hV => ⟨(hV.cell (p := ⟨b1, o + i * 3, none⟩) hb).trans hc0, (hV.cell (p := ⟨b1, o + i * 3 + 1, none⟩) hb).trans hc1, (hV.cell (p := ⟨b1, o + i * 3 + 2, none⟩) hb).trans hc2⟩)
        have HRK := Lib.hid hrk
        have HKL := Lib.hid hkl
        subst hA
        clear hz hrk hkl hb
        go_upto_if 34 with (fail)
        go_cut [] (fun wc => ∃ (G3 : Nat → Prop) (A3 : Option Addr) (c3 : Nat) (K3 : List RgE), Two Rg w a b wc G3 A3 c3 K3 ∧ Below w.heap.size wr wc)
        case first =>
          cases d with
          | true =>
            have hop1 : ∀ V, Below wr.heap.size wr V → Calls Try.prog 9 #[rp a, nr u] V fun e w' => ∃ G', e = .returned (.int .i64 ((rgDrop K u).1 : Int)) ∧ Rg w' a G' (rgDrop K u).2 ∧ Turn G V w' ∧ (∀ x, G' x → G x ∨ V.heap.size ≤ x) := fun V hV => OK.out.drop V a G K u (OK.out.later HTW.out.rg hV)
            obtain ⟨er, her⟩ : ∃ er, er = (rgDrop K u).1 := ⟨_, rfl⟩
            obtain ⟨K3, hK3⟩ : ∃ K3, K3 = (rgDrop K u).2 := ⟨_, rfl⟩
            have hop2 : ∀ V, Rf V w.heap.size b Ab cb K → w.heap.size ≤ V.heap.size → Calls Try.prog 10 #[.pointer (some ⟨b, 0, none⟩), nr u] V fun e w' => ∃ (A' : Option Addr) (c' : Nat), e = .returned (.int .i64 ((rgDrop K u).1 : Int)) ∧ Rf w' w.heap.size b A' c' (rgDrop K u).2 ∧ Turn (fun x => x = b ∨ Ab.map (·.block) = some x) V w' ∧ (∀ x, A'.map (·.block) = some x → Ab.map (·.block) = some x ∨ V.heap.size ≤ x) := fun V hV hs =>
              rDrop_any w.heap.size b Ab cb K u V hV (OK.out.good HTW.out.rg) hs
            simp only [← her, ← hK3] at hop1 hop2
            clear her hK3
            go_upto_region 9 with (fail)
            go_region_with (first
              | (go_at_call 9; refine (hop1 _ ?_).mono ?_; (first | exact Below.refl _ _ | exact belowDrews (Below.refl _ _) 1 | exact belowDrews (Below.refl _ _) 2); rintro e w2 ⟨G3, rfl, hrg2, ht2, hG2⟩; (have hbw2 : Below w.heap.size wr w2 := by first | exact ht2.below (fun k _ hk => HTW.out.base k hk) HTW.out.below.size | exact (belowDrews (Below.refl _ _) 1).trans (ht2.below (fun k _ hk => HTW.out.base k hk) HTW.out.below.size)); obtain ⟨p0, p1, p2⟩ := HCELL.out w2 hbw2)
              | (go_at_call 10; refine (hop2 _ ?_ ?_).mono ?_; exact HTW.out.rf.turn (by first | exact ht2 | exact (Turn.refl _ _).drew.trans ht2) HTW.out.nb HTW.out.na; exact Nat.le_trans HTW.out.below.size hbw2.size; rintro e w3 ⟨A3, c3, rfl, hrf3, ht3, hA3⟩))
            all_goals
              have htwr : Two Rg w a b w3 G3 A3 c3 K3 := by first | exact HTW.out.both OK.out hrg2 ht2 hG2 hrf3 ht3 hA3 | exact (HTW.out.later OK.out (belowDrews (Below.refl _ _) 1)).both OK.out hrg2 ht2 hG2 hrf3 ht3 hA3
              have HBW3 := Lib.hid (show Below w.heap.size wr w3 from hbw2.trans (ht3.below (fun k _ hk => by
                rcases hk with e | e
                · rw [e]; exact HTW.out.rf.hb
                · exact (HTW.out.rf.own.low e).1) (Nat.le_trans HTW.out.below.size hbw2.size)))
              have HTW3 := Lib.hid htwr
              clear hop1 hop2 hrg2 ht2 hG2 hrf3 ht3 hA3 htwr hbw2 p0 p1 p2 hc0 hc1 hc2
              repeat (first | go_skip | go_guarded | go_step)
              go_meet
              case rel => exact ⟨_, _, _, _, HTW3.out, HBW3.out⟩
          | false =>
            have hbU : Below wr.heap.size wr (wr.alloc (.cells #[] 5)) := (Below.refl _ _).alloc (Nat.le_refl _) _
            have HOU := Lib.hid (show (wr.alloc (.cells #[] 5)).ownsRow wr.heap.size 5 1 (.slice (some ⟨wr.heap.size, 0, none⟩) 0 0) 0 [] from ⟨rfl, .inr ⟨wr.heap.size, 0, #[], rfl, Nat.le_refl _, heap_alloc_new wr _, Nat.le_refl _, by simp [maxLen], rfl, rfl⟩⟩)
            obtain ⟨e0, e1, e2⟩ := HCELL.out _ (hbU.mono HTW.out.below.size)
            have HRU := Lib.hid (HRK.out.below (hbU.mono HTW.out.below.size))
            have HBU := Lib.hid hbU
            clear hbU
            go_upto_region 11 with (fail)
            repeat (first | (at_builtin; refine appB _ rfl (.tmp 50) (.tmp 55) rfl wr.heap.size _ 0 rfl HOU.out _ Ak nk ck k rfl HRU.out (by omega) HBU.out.size ?_; intro Ao co w1 ho1 hb1; obtain ⟨g0, g1, g2⟩ := HCELL.out w1 ((HBU.out.trans hb1).mono HTW.out.below.size)) | go_skip | go_guarded | go_step)
            have hbw1 : Below wr.heap.size wr w1 := HBU.out.trans hb1
            have HBW1 := Lib.hid hbw1
            have HO1 := Lib.hid ho1
            obtain ⟨er, her⟩ : ∃ er, er = (rgPut K u k).1 := ⟨_, rfl⟩
            obtain ⟨K3, hK3⟩ : ∃ K3, K3 = (rgPut K u k).2 := ⟨_, rfl⟩
            have hlow := OK.out.low HTW.out.rg
            have hput := OK.out.put w1 a G K u Ao nk co w1.heap.size k (OK.out.later HTW.out.rg hbw1) (ownB_rd ho1) (Nat.le_refl _) (ownB_cap ho1) (by omega) (fun _ x hx hg => by
              have h1 := (World.ownsRow.lt ho1 x (by rw [ownBlkR]; exact hx)).1
              have h2 := hlow x hg
              omega)
            have hop2 : ∀ V, Rf V w.heap.size b Ab cb K → w.heap.size ≤ V.heap.size → Rd V w.heap.size 1 Ak nk (k.map bv) → Calls Try.prog 12 #[.pointer (some ⟨b, 0, none⟩), nr u, .slice Ak nk ck] V fun e w' => ∃ (A' : Option Addr) (c' : Nat), e = .returned (.int .i64 ((rgPut K u k).1 : Int)) ∧ Rf w' w.heap.size b A' c' (rgPut K u k).2 ∧ Turn (fun x => x = b ∨ Ab.map (·.block) = some x) V w' ∧ (∀ x, A'.map (·.block) = some x → Ab.map (·.block) = some x ∨ V.heap.size ≤ x) := fun V hV hs hr =>
              rPut_any w.heap.size b Ab cb K u Ak nk ck k V hV (OK.out.good HTW.out.rg) hr (by omega) hs
            simp only [← her, ← hK3] at hput hop2
            have HOP2 := Lib.hid hop2
            clear her hK3 hop2 ho1 hb1 hbw1 e0 e1 e2 hc0 hc1 hc2
            refine hput.mono ?_
            rintro e w2 ⟨G3, rfl, hrg2, ht2, hG2⟩
            have HNG := Lib.hid (show ∀ x, Ao.map (·.block) = some x → ¬ G3 x from fun x hx hg => by
              have h1 := World.ownsRow.lt HO1.out x (by rw [ownBlkR]; exact hx)
              rcases hG2 x hg with q | q
              · have := hlow x q; omega
              · omega)
            have HG3 := Lib.hid (show ∀ x, G3 x → G x ∨ wr.heap.size ≤ x from fun x hx => (hG2 x hx).imp id fun q => Nat.le_trans HBW1.out.size q)
            have HT2 := Lib.hid ((Turn.ofBelow (G := G) HBW1.out).then_ ht2 (fun _ _ q => q))
            have HRG2 := Lib.hid hrg2
            obtain ⟨Y0, hY0⟩ := ownB_int (ht2.own HO1.out (fun x hx hg => by
              have h1 := World.ownsRow.lt HO1.out x hx
              have h2 := hlow x hg
              omega))
            have HY0 := Lib.hid hY0
            clear hput hrg2 ht2 hG2 hY0 hlow g0 g1 g2
            dsimp only
            repeat (first | go_skip | go_guarded | go_step)
            go_loopw [8] (fun q wz => ∃ (j : Nat) (Y : List Int), j ≤ nk ∧ q = .int .i64 (j : Int) ∧ wz.ownsRow wr.heap.size 5 1 (.slice Ao nk co) nk (Y.map i8) ∧ Rg wz a G3 K3 ∧ Turn G wr wz) (fun q _ => nk - (intOf q).toNat)
            case atStart => exact ⟨0, Y0, Nat.zero_le _, rfl, HY0.out, HRG2.out, HT2.out⟩
            case round =>
              rename World => wz
              obtain ⟨j, Y, hj, rfl, hoz, hrgz, htz⟩ := hrel
              by_cases hlj : j < nk
              · have hcj : (j : Int) < (nk : Int) := by omega
                have hj0 : (0 : Int) ≤ (j : Int) := by omega
                obtain ⟨g, y, hAo, hbg, hcg, hfg, hset⟩ := ownI_set hoz hlj
                have HNGg := HNG.out g (by rw [hAo]; rfl)
                have HSET := Lib.hid hset
                have HRGZ := Lib.hid hrgz
                have HTZ := Lib.hid htz
                subst hAo
                clear hset hrgz htz hoz
                repeat (first | go_skip | go_guarded | go_step)
                go_roundw
                case rel =>
                  obtain ⟨Y', hY'⟩ := HSET.out _
                  refine ⟨j + 1, Y', by omega, by go_num, hY', OK.out.keep HRGZ.out (turn1R _ _ _ _) (fun k hk e => HNGg (by rw [← e]; exact hk)), HTZ.out.then_ (turn1R _ _ _ _) (fun k hk e => by rw [e] at hk; omega)⟩
                case measure => simp [intOf]; omega
              · obtain rfl : nk = j := by omega
                have hcj : ¬ (nk : Int) < (nk : Int) := by omega
                have hbwz : Below w.heap.size wr wz := htz.below (fun k _ hk => HTW.out.base k hk) HTW.out.below.size
                obtain ⟨p0, p1, p2⟩ := HCELL.out wz hbwz
                have HBWZ := Lib.hid hbwz
                have HRGZ := Lib.hid hrgz
                have HTZ := Lib.hid htz
                clear hbwz hrgz htz hoz
                go_upto_region 17 with (fail)
                go_region_with (go_at_call 12; refine (HOP2.out _ ?_ ?_ ?_).mono ?_; exact HTW.out.rf.turn (by first | exact HTZ.out | exact HTZ.out.drew) HTW.out.nb HTW.out.na; exact Nat.le_trans HTW.out.below.size HTZ.out.size; first | exact HRK.out.below HBWZ.out | exact (HRK.out.below HBWZ.out).below (belowDrews (Below.refl _ _) 1); rintro e w3 ⟨A3, c3, rfl, hrf3, ht3, hA3⟩)
                all_goals
                  have ht4 : Turn (fun x => x = b ∨ Ab.map (·.block) = some x) wz w3 := by first | exact ht3 | exact (Turn.refl _ _).drew.trans ht3
                  have htwr : Two Rg w a b w3 G3 A3 c3 K3 := HTW.out.both OK.out HRGZ.out HTZ.out HG3.out hrf3 ht4 hA3
                  have HBW3 := Lib.hid (show Below w.heap.size wr w3 from HBWZ.out.trans (ht4.below (fun k _ hk => by
                    rcases hk with e | e
                    · rw [e]; exact HTW.out.rf.hb
                    · exact (HTW.out.rf.own.low e).1) (Nat.le_trans HTW.out.below.size HTZ.out.size)))
                  have HTW3 := Lib.hid htwr
                  clear hrf3 ht3 ht4 hA3 htwr p0 p1 p2
                  repeat (first | go_skip | go_guarded | go_step)
                  go_meet
                  case rel => exact ⟨_, _, _, _, HTW3.out, HBW3.out⟩
        case rest =>
          obtain ⟨G3, A3, c3, K3, htw3, hbw3⟩ := hcut
          have HTW3 := Lib.hid htw3
          have HBW3 := Lib.hid hbw3
          clear htw3 hbw3
          -- both have turned: world wc, HTW3 : Two .. wc G3 A3 c3 K3
          have hkey := OK.out.key wc a G3 K3 u HTW3.out.rg
          obtain ⟨L, hL⟩ : ∃ L, L = rgKey K3 u := ⟨_, rfl⟩
          obtain ⟨is, his⟩ : ∃ is, is = (rgAt K3 u).isSome := ⟨_, rfl⟩
          rw [← hL, ← his] at hkey
          have HL := Lib.hid hL
          have HIS := Lib.hid his
          clear hL his
          obtain ⟨j0, j1, j2⟩ := HCELL.out wc HBW3.out
          repeat (first | go_skip | go_guarded | go_step)
          refine hkey.mono ?_
          rintro e w4 ⟨G4, A4, n4, c4, rfl, hrd4, hap4, hrg4, ht4, hG4⟩
          have HTW4 := Lib.hid (HTW3.out.prog hrg4 ht4 hG4)
          have hbw4 : Below w.heap.size wc w4 := ht4.below (fun k _ hk => HTW3.out.base k hk) HTW3.out.below.size
          have hrk := rKey2_any w.heap.size b A3 c3 K3 u w4 HTW4.out.rf (OK.out.good hrg4)
          rw [← HL.out, ← HIS.out] at hrk
          have HRD4 := Lib.hid hrd4
          have HAP4 := Lib.hid hap4
          have HBW4 := Lib.hid (HBW3.out.trans hbw4)
          obtain ⟨j3, j4, j5⟩ := HCELL.out w4 HBW4.out
          clear hkey hrd4 hap4 hrg4 ht4 hG4 hbw4 j0 j1 j2
          dsimp only
          repeat (first | go_skip | go_guarded | go_step)
          refine hrk.mono ?_
          rintro e w5 ⟨A5, n5, c5, rfl, hrd5, hb5, hnew5⟩
          have HTW5 := Lib.hid (HTW4.out.later OK.out hb5)
          have hlow4 := OK.out.low HTW4.out.rg
          have hcv1 : ∀ V, Turn G4 w5 V → (convert 32 9 (.slice A4 n4 c4)).run Try.prog V = .ok (strV L) V := fun V hV =>
            run_conv_str (P := Try.prog) V 32 9 5 Try.underlying32 Try.underlying5 Try.underlying9 w5.heap.size A4 n4 c4 L (rdTurn ((HRD4.out.below hb5).more hb5.size) hV (Nat.le_refl _) HAP4.out)
          have hcv2 : ∀ V, Turn G4 w5 V → (convert 32 9 (.slice A5 n5 c5)).run Try.prog V = .ok (strV L) V := fun V hV =>
            run_conv_str (P := Try.prog) V 32 9 5 Try.underlying32 Try.underlying5 Try.underlying9 w5.heap.size A5 n5 c5 L (rdTurn hrd5 hV (Nat.le_refl _) (fun k hk hg => by have := hnew5 k hk; have := hlow4 k hg; omega))
          obtain ⟨m3, hm3⟩ : ∃ m3, m3 = K3.length := ⟨_, rfl⟩
          have HM3 := Lib.hid hm3
          have HCV1 := Lib.hid hcv1
          have HCV2 := Lib.hid hcv2
          clear hrk hrd5 hb5 hcv1 hcv2 hm3 j3 j4 j5 hnew5 hlow4
          dsimp only
          go_upto_region 21 with (fail)
          refine wp_region_held_drew (S := fun V => Turn G4 w5 V ∧ ∃ G, Two Rg w a b V G A3 c3 K3 ∧ ∀ x, G x → G4 x ∨ w5.heap.size ≤ x) (by kernel_rfl) ?_ (fun hHeld => ?_)
          · exact ⟨(Turn.refl _ _).drew, G4, HTW5.out.later OK.out (belowDrews (Below.refl _ _) 1), fun x hx => .inl hx⟩
          refine wpAnyH_take (i := 0) (oi := ?oid1) (v := ?vd1) ?hod1 (by kernel_rfl) ?hfd1 ?hrd1 ?hQd1 ?hyd1 hHeld ?restd1
          case hod1 => (simp only [List.getElem?_toArray, List.getElem?_cons_succ, List.getElem?_cons_zero]; exact rfl)
          case hfd1 => kernel_rfl
          case hrd1 => kernel_rfl
          case hQd1 => exact fun _ _ _ h => h
          case hyd1 =>
            refine Or.inl ⟨by rfl, ?_⟩
            intro V hSV
            go_simp
            (try with_reducible rfl)
          try simp only [Act.put, List.setIfInBounds_toArray, List.set_cons_zero, List.set_cons_succ]
          refine wpAnyH_take (i := 1) (oi := ?oid2) (v := ?vd2) ?hod2 (by kernel_rfl) ?hfd2 ?hrd2 ?hQd2 ?hyd2 hHeld ?restd2
          case hod2 => (simp only [List.getElem?_toArray, List.getElem?_cons_succ, List.getElem?_cons_zero]; exact rfl)
          case hfd2 => kernel_rfl
          case hrd2 => kernel_rfl
          case hQd2 => exact fun _ _ _ h => h
          case hyd2 =>
            refine Or.inl ⟨by rfl, ?_⟩
            intro V hSV
            have q1 := HCV1.out V hSV.1
            go_simp
            (try with_reducible rfl)
          try simp only [Act.put, List.setIfInBounds_toArray, List.set_cons_zero, List.set_cons_succ]
          refine wpAnyH_take (i := 2) (oi := ?oid3) (v := ?vd3) ?hod3 (by kernel_rfl) ?hfd3 ?hrd3 ?hQd3 ?hyd3 hHeld ?restd3
          case hod3 => (simp only [List.getElem?_toArray, List.getElem?_cons_succ, List.getElem?_cons_zero]; exact rfl)
          case hfd3 => kernel_rfl
          case hrd3 => kernel_rfl
          case hQd3 => exact fun _ _ _ h => h
          case hyd3 =>
            refine Or.inl ⟨by rfl, ?_⟩
            intro V hSV
            go_simp
            (try with_reducible rfl)
          try simp only [Act.put, List.setIfInBounds_toArray, List.set_cons_zero, List.set_cons_succ]
          refine wpAnyH_take (i := 3) (oi := ?oid4) (v := ?vd4) ?hod4 (by kernel_rfl) ?hfd4 ?hrd4 ?hQd4 ?hyd4 hHeld ?restd4
          case hod4 => (simp only [List.getElem?_toArray, List.getElem?_cons_succ, List.getElem?_cons_zero]; exact rfl)
          case hfd4 => kernel_rfl
          case hrd4 => kernel_rfl
          case hQd4 => exact fun _ _ _ h => h
          case hyd4 =>
            refine Or.inl ⟨by rfl, ?_⟩
            intro V hSV
            have q1 := HCV2.out V hSV.1
            go_simp
            (try with_reducible rfl)
          try simp only [Act.put, List.setIfInBounds_toArray, List.set_cons_zero, List.set_cons_succ]
          refine wpAnyH_take (i := 4) (oi := ?oid5) (v := .bool false) ?hod5 (by kernel_rfl) ?hfd5 ?hrd5 ?hQd5 ?hyd5 hHeld ?restd5
          case hod5 => (simp only [List.getElem?_toArray, List.getElem?_cons_succ, List.getElem?_cons_zero]; exact rfl)
          case hfd5 => kernel_rfl
          case hrd5 => kernel_rfl
          case hQd5 => exact fun _ _ _ h => h
          case hyd5 =>
            refine Or.inl ⟨by rfl, ?_⟩
            intro V hSV
            go_simp
            (try with_reducible rfl)
          try simp only [Act.put, List.setIfInBounds_toArray, List.set_cons_zero, List.set_cons_succ]
          refine wpAnyH_take (i := 5) (oi := ?oid6) (v := ?vd6) ?hod6 (by kernel_rfl) ?hfd6 ?hrd6 ?hQd6 ?hyd6 hHeld ?restd6
          case hod6 => (simp only [List.getElem?_toArray, List.getElem?_cons_succ, List.getElem?_cons_zero]; exact rfl)
          case hfd6 => kernel_rfl
          case hrd6 => kernel_rfl
          case hQd6 => exact fun _ _ _ h => h
          case hyd6 =>
            refine Or.inl ⟨by rfl, ?_⟩
            intro V hSV
            go_simp
            (try with_reducible rfl)
          try simp only [Act.put, List.setIfInBounds_toArray, List.set_cons_zero, List.set_cons_succ]
          refine wpAnyH_take (i := 6) (oi := ?oid7) (v := ?vd7) ?hod7 (by kernel_rfl) ?hfd7 ?hrd7 ?hQd7 ?hyd7 hHeld ?restd7
          case hod7 => (simp only [List.getElem?_toArray, List.getElem?_cons_succ, List.getElem?_cons_zero]; exact rfl)
          case hfd7 => kernel_rfl
          case hrd7 => kernel_rfl
          case hQd7 => exact fun _ _ _ h => h
          case hyd7 =>
            refine Or.inl ⟨by rfl, ?_⟩
            intro V hSV
            go_simp
            (try with_reducible rfl)
          try simp only [Act.put, List.setIfInBounds_toArray, List.set_cons_zero, List.set_cons_succ]
          refine wpAnyH_take (i := 7) (oi := ?oid8) (v := ?vd8) ?hod8 (by kernel_rfl) ?hfd8 ?hrd8 ?hQd8 ?hyd8 hHeld ?restd8
          case hod8 => (simp only [List.getElem?_toArray, List.getElem?_cons_succ, List.getElem?_cons_zero]; exact rfl)
          case hfd8 => kernel_rfl
          case hrd8 => kernel_rfl
          case hQd8 => exact fun _ _ _ h => h
          case hyd8 =>
            refine Or.inl ⟨by rfl, ?_⟩
            intro V hSV
            go_simp
            (try with_reducible rfl)
          try simp only [Act.put, List.setIfInBounds_toArray, List.set_cons_zero, List.set_cons_succ]
          refine wpAnyH_take (i := 8) (oi := ?oid9) (v := .bool false) ?hod9 (by kernel_rfl) ?hfd9 ?hrd9 ?hQd9 ?hyd9 hHeld ?restd9
          case hod9 => (simp only [List.getElem?_toArray, List.getElem?_cons_succ, List.getElem?_cons_zero]; exact rfl)
          case hfd9 => kernel_rfl
          case hrd9 => kernel_rfl
          case hQd9 => exact fun _ _ _ h => h
          case hyd9 =>
            refine Or.inl ⟨by rfl, ?_⟩
            intro V hSV
            go_simp
            (try with_reducible rfl)
          try simp only [Act.put, List.setIfInBounds_toArray, List.set_cons_zero, List.set_cons_succ]
          refine wpAnyH_take (i := 9) (oi := ?oid10) (v := ?vd10) ?hod10 (by kernel_rfl) ?hfd10 ?hrd10 ?hQd10 ?hyd10 hHeld ?restd10
          case hod10 => (simp only [List.getElem?_toArray, List.getElem?_cons_succ, List.getElem?_cons_zero]; exact rfl)
          case hfd10 => kernel_rfl
          case hrd10 => kernel_rfl
          case hQd10 => exact fun _ _ _ h => h
          case hyd10 =>
            refine Or.inl ⟨by rfl, ?_⟩
            intro V hSV
            go_simp
            (try with_reducible rfl)
          try simp only [Act.put, List.setIfInBounds_toArray, List.set_cons_zero, List.set_cons_succ]
          refine wpAnyH_take (i := 10) (oi := ?oid11) (v := ?vd11) ?hod11 (by kernel_rfl) ?hfd11 ?hrd11 ?hQd11 ?hyd11 hHeld ?restd11
          case hod11 => (simp only [List.getElem?_toArray, List.getElem?_cons_succ, List.getElem?_cons_zero]; exact rfl)
          case hfd11 => kernel_rfl
          case hrd11 => kernel_rfl
          case hQd11 => exact fun _ _ _ h => h
          case hyd11 =>
            refine Or.inl ⟨by rfl, ?_⟩
            intro V hSV
            go_simp
            (try with_reducible rfl)
          try simp only [Act.put, List.setIfInBounds_toArray, List.set_cons_zero, List.set_cons_succ]
          refine wpAnyH_take (i := 11) (oi := ?oid12) (v := ?vd12) ?hod12 (by kernel_rfl) ?hfd12 ?hrd12 ?hQd12 ?hyd12 hHeld ?restd12
          case hod12 => (simp only [List.getElem?_toArray, List.getElem?_cons_succ, List.getElem?_cons_zero]; exact rfl)
          case hfd12 => kernel_rfl
          case hrd12 => kernel_rfl
          case hQd12 => exact fun _ _ _ h => h
          case hyd12 =>
            refine Or.inl ⟨by rfl, ?_⟩
            intro V hSV
            go_simp
            (try with_reducible rfl)
          try simp only [Act.put, List.setIfInBounds_toArray, List.set_cons_zero, List.set_cons_succ]
          refine wpAnyH_take (i := 14) (oi := ?oid13) (v := ?vd13) ?hod13 (by kernel_rfl) ?hfd13 ?hrd13 ?hQd13 ?hyd13 hHeld ?restd13
          case hod13 => (simp only [List.getElem?_toArray, List.getElem?_cons_succ, List.getElem?_cons_zero]; exact rfl)
          case hfd13 => kernel_rfl
          case hrd13 => kernel_rfl
          case hQd13 => exact fun _ _ _ h => h
          case hyd13 =>
            refine Or.inl ⟨by rfl, ?_⟩
            intro V hSV
            go_simp
            (try with_reducible rfl)
          try simp only [Act.put, List.setIfInBounds_toArray, List.set_cons_zero, List.set_cons_succ]
          refine wpAnyH_take (i := 15) (oi := ?oid14) (v := ?vd14) ?hod14 (by kernel_rfl) ?hfd14 ?hrd14 ?hQd14 ?hyd14 hHeld ?restd14
          case hod14 => (simp only [List.getElem?_toArray, List.getElem?_cons_succ, List.getElem?_cons_zero]; exact rfl)
          case hfd14 => kernel_rfl
          case hrd14 => kernel_rfl
          case hQd14 => exact fun _ _ _ h => h
          case hyd14 =>
            refine Or.inl ⟨by rfl, ?_⟩
            intro V hSV
            go_simp
            (try with_reducible rfl)
          try simp only [Act.put, List.setIfInBounds_toArray, List.set_cons_zero, List.set_cons_succ]
          refine wpAnyH_take (i := 16) (oi := ?oid15) (v := ?vd15) ?hod15 (by kernel_rfl) ?hfd15 ?hrd15 ?hQd15 ?hyd15 hHeld ?restd15
          case hod15 => (simp only [List.getElem?_toArray, List.getElem?_cons_succ, List.getElem?_cons_zero]; exact rfl)
          case hfd15 => kernel_rfl
          case hrd15 => kernel_rfl
          case hQd15 => exact fun _ _ _ h => h
          case hyd15 =>
            refine Or.inl ⟨by rfl, ?_⟩
            intro V hSV
            go_simp
            (try with_reducible rfl)
          try simp only [Act.put, List.setIfInBounds_toArray, List.set_cons_zero, List.set_cons_succ]
          refine wpAnyH_take (i := 17) (oi := ?oid16) (v := ?vd16) ?hod16 (by kernel_rfl) ?hfd16 ?hrd16 ?hQd16 ?hyd16 hHeld ?restd16
          case hod16 => (simp only [List.getElem?_toArray, List.getElem?_cons_succ, List.getElem?_cons_zero]; exact rfl)
          case hfd16 => kernel_rfl
          case hrd16 => kernel_rfl
          case hQd16 => exact fun _ _ _ h => h
          case hyd16 =>
            refine Or.inl ⟨by rfl, ?_⟩
            intro V hSV
            obtain ⟨_, g, hg, _⟩ := hSV
            have q1 := hg.rf.box.cell 0
            simp only [List.getElem?_cons_zero] at q1
            rw [← HM3.out] at q1
            go_simp
            (try with_reducible rfl)
          try simp only [Act.put, List.setIfInBounds_toArray, List.set_cons_zero, List.set_cons_succ]
          refine wpAnyH_take (i := 18) (oi := ?oid17) (v := ?vd17) ?hod17 (by kernel_rfl) ?hfd17 ?hrd17 ?hQd17 ?hyd17 hHeld ?restd17
          case hod17 => (simp only [List.getElem?_toArray, List.getElem?_cons_succ, List.getElem?_cons_zero]; exact rfl)
          case hfd17 => kernel_rfl
          case hrd17 => kernel_rfl
          case hQd17 => exact fun _ _ _ h => h
          case hyd17 =>
            refine Or.inl ⟨by rfl, ?_⟩
            intro V hSV
            go_simp
            (try with_reducible rfl)
          try simp only [Act.put, List.setIfInBounds_toArray, List.set_cons_zero, List.set_cons_succ]
          refine wpAnyH_ready (rs := [12]) (by kernel_rfl) (by simp) ?_
          refine AllReadyH.cons (o := ?od18) ?hod18 (fun K hK => ?kd18) ?md18
          case hod18 => (simp only [List.getElem?_toArray, List.getElem?_cons_succ, List.getElem?_cons_zero]; exact rfl)
          case kd18 =>
            go_simp
            obtain ⟨hTd18, gd18, hgd18, hnd18⟩ := hHeld
            refine (OK.out.list _ a gd18 K3 hgd18.rg).mono ?_
            rintro e Wd18 ⟨Gd18, Ad18, md18, cd18, rfl, hrdd18, _, hrgd18, htd18, hGd18⟩
            obtain rfl : m3 = md18 := by have := hrdd18.len1; rw [HM3.out]; simpa using this
            (try dsimp only)
            refine hK.out _ _ ?_ (fun hHeld => ?_)
            · exact ⟨Turn.then_ hTd18 htd18 (fun k hk hg => (hnd18 k hg).elim id (fun q => by omega)), Gd18, hgd18.prog hrgd18 htd18 hGd18, fun x hx => (hGd18 x hx).elim (hnd18 x) (fun q => .inr (Nat.le_trans hTd18.size q))⟩
            clear hK K
            try simp only [Act.put, List.setIfInBounds_toArray, List.set_cons_zero, List.set_cons_succ]
            refine wpAnyH_take (i := 13) (oi := ?oid19) (v := ?vd19) ?hod19 (by kernel_rfl) ?hfd19 ?hrd19 ?hQd19 ?hyd19 hHeld ?restd19
            case hod19 => (simp only [List.getElem?_toArray, List.getElem?_cons_succ, List.getElem?_cons_zero]; exact rfl)
            case hfd19 => kernel_rfl
            case hrd19 => kernel_rfl
            case hQd19 => exact fun _ _ _ h => h
            case hyd19 =>
              refine Or.inl ⟨by rfl, ?_⟩
              intro V hSV
              go_simp
              (try with_reducible rfl)
            try simp only [Act.put, List.setIfInBounds_toArray, List.set_cons_zero, List.set_cons_succ]
            refine wpAnyH_take (i := 19) (oi := ?oid20) (v := .bool false) ?hod20 (by kernel_rfl) ?hfd20 ?hrd20 ?hQd20 ?hyd20 hHeld ?restd20
            case hod20 => (simp only [List.getElem?_toArray, List.getElem?_cons_succ, List.getElem?_cons_zero]; exact rfl)
            case hfd20 => kernel_rfl
            case hrd20 => kernel_rfl
            case hQd20 => exact fun _ _ _ h => h
            case hyd20 =>
              refine Or.inl ⟨by rfl, ?_⟩
              intro V hSV
              go_simp
              (try with_reducible rfl)
            try simp only [Act.put, List.setIfInBounds_toArray, List.set_cons_zero, List.set_cons_succ]
            refine wpAnyH_take (i := 20) (oi := ?oid21) (v := ?vd21) ?hod21 (by kernel_rfl) ?hfd21 ?hrd21 ?hQd21 ?hyd21 hHeld ?restd21
            case hod21 => (simp only [List.getElem?_toArray, List.getElem?_cons_succ, List.getElem?_cons_zero]; exact rfl)
            case hfd21 => kernel_rfl
            case hrd21 => kernel_rfl
            case hQd21 => exact fun _ _ _ h => h
            case hyd21 =>
              refine Or.inl ⟨by rfl, ?_⟩
              intro V hSV
              go_simp
              (try with_reducible rfl)
            try simp only [Act.put, List.setIfInBounds_toArray, List.set_cons_zero, List.set_cons_succ]
            refine wpAnyH_done (by kernel_rfl) ?_ _
            obtain ⟨_, G6, htw6, _⟩ := hHeld
            have HTW6 := Lib.hid htw6
            clear htw6
            repeat (first | go_skip | go_guarded | go_step)
            go_roundw
            case rel => exact ⟨i + 1, G6, A3, c3, K3, by omega, by go_num, HTW6.out⟩
            case measure => simp [intOf]; omega
          exact AllReadyH.nil
      · obtain rfl : n = i := by omega
        have hci : ¬ (n : Int) < (n : Int) := by omega
        have hlist := OK.out.list wr a G K HTW.out.rg
        repeat (first | go_skip | go_guarded | go_step)
        refine hlist.mono ?_
        rintro e w5 ⟨G5, A5, n5, c5, rfl, hrd5, hap5, hrg5, ht5, hG5⟩
        have HTW5 := Lib.hid (HTW.out.prog hrg5 ht5 hG5)
        have HRD5 := Lib.hid hrd5
        have HAP5 := Lib.hid hap5
        have hn5 : K.length = n5 := by have := hrd5.len1; simpa using this
        have hn5b : n5 ≤ 32 := by rw [← hn5]; exact (OK.out.good hrg5).len
        have HN5 := Lib.hid hn5
        clear hlist hrd5 hap5 hrg5 ht5 hG5 hn5
        dsimp only
        repeat (first | go_skip | go_guarded | go_step)
        go_loopw [14] (fun q wz => ∃ (j : Nat) (G : Nat → Prop), j ≤ n5 ∧ q = .int .i64 (j : Int) ∧ Two Rg w a b wz G Ab cb K ∧ Rd wz wz.heap.size 1 A5 n5 ((K.map (·.1)).map nr) ∧ (∀ x, A5.map (·.block) = some x → ¬ G x ∧ x < wz.heap.size ∨ n5 = 0)) (fun q _ => n5 - (intOf q).toNat)
        case atStart => exact ⟨0, G5, by omega, rfl, HTW5.out, HRD5.out, fun x hx => by
          rcases Nat.eq_zero_or_pos n5 with q | q
          · exact .inr q
          · obtain ⟨b', o', e', hb', _⟩ := HRD5.out.2 q
            rw [e'] at hx
            obtain rfl := Option.some.inj hx
            exact .inl ⟨HAP5.out _ (by rw [e']; rfl), hb'⟩⟩
        case round =>
          rename World => wz
          obtain ⟨j, Gz, hj, rfl, htwz, hrdz, hapz⟩ := hrel
          have HTZ := Lib.hid htwz
          have HRZ := Lib.hid hrdz
          have HAZ := Lib.hid hapz
          clear htwz hrdz hapz
          by_cases hlj : j < n5
          · have hcj : (j : Int) < (n5 : Int) := by omega
            have hj0 : (0 : Int) ≤ (j : Int) := by omega
            obtain ⟨b7, o7, u7, hA7, hb7, hu7, e7⟩ := Rd.at1 HRZ.out hlj
            rw [List.getElem?_map, List.getElem?_map] at hu7
            obtain ⟨x, hx, rfl⟩ : ∃ x, K[j]? = some x ∧ u7 = nr x.1 := by
              cases q : K[j]? with
              | none => rw [q] at hu7; cases hu7
              | some x => rw [q] at hu7; exact ⟨x, rfl, by simpa using hu7.symm⟩
            have hgood := OK.out.good HTZ.out.rg
            have hat : rgAt K x.1 = some x.2 := rgAt_of hgood.rise (List.mem_of_getElem? hx)
            have hkey := OK.out.key wz a Gz K x.1 HTZ.out.rg
            rw [hat, show rgKey K x.1 = x.2 by unfold rgKey; rw [hat]; rfl] at hkey
            have hapj := HAZ.out b7 (by rw [hA7]; rfl)
            have HXJ := Lib.hid hx
            subst hA7
            clear hu7 hgood hat hx
            repeat (first | go_skip | go_guarded | go_step)
            refine hkey.mono ?_
            rintro e w6 ⟨G6, A6, n6, c6, rfl, hrd6, _, hrg6, ht6, hG6⟩
            have HT6 := Lib.hid (HTZ.out.prog hrg6 ht6 hG6)
            have hb7' : ¬ Gz b7 := by
              rcases hapj with q | q
              · exact q.1
              · omega
            have e7' := (ht6.cell (p := ⟨b7, o7 + j, none⟩) hb7 hb7').trans e7
            have HRZ6 := Lib.hid (show Rd w6 w6.heap.size 1 (some ⟨b7, o7, none⟩) n5 ((K.map (·.1)).map nr) by
              refine ⟨HRZ.out.1, fun h0 => ?_⟩
              obtain ⟨b', o', e', hb', hc'⟩ := HRZ.out.2 h0
              cases e'
              exact ⟨_, _, rfl, Nat.lt_of_lt_of_le hb7 ht6.size, fun j u hu => (ht6.cell (p := ⟨b7, o7 + j, none⟩) hb7 hb7').trans (hc' j u hu)⟩)
            have HAZ6 := Lib.hid (show ∀ x, (some (⟨b7, o7, none⟩ : Addr)).map (·.block) = some x → ¬ G6 x ∧ x < w6.heap.size ∨ n5 = 0 from fun x hx => by
              obtain rfl := Option.some.inj hx
              exact .inl ⟨fun hg => (hG6 _ hg).elim hb7' (fun q => by dsimp only at *; omega), Nat.lt_of_lt_of_le hb7 ht6.size⟩)
            have k6 := HT6.out.rf.box.cell 0
            simp only [List.getElem?_cons_zero] at k6
            rw [HN5.out] at k6
            have hown6 := HT6.out.rf.own
            rw [HN5.out] at hown6
            obtain ⟨b8, o8, x', hA8, hb8, hx8, f0, f1⟩ := rdEn_at hown6.rd hlj
            rw [HXJ.out] at hx8
            obtain rfl := Option.some.inj hx8
            have hcv : ∀ q, (convert 32 9 (.slice A6 n6 c6)).run Try.prog (w6.drewN q) = .ok (strV x.2) (w6.drewN q) := fun q =>
              run_conv_str (P := Try.prog) (w6.drewN q) 32 9 5 Try.underlying32 Try.underlying5 Try.underlying9 w6.heap.size A6 n6 c6 x.2 (hrd6.below (belowDrews (Below.refl _ _) q))
            have hcv0 : (convert 32 9 (.slice A6 n6 c6)).run Try.prog w6 = .ok (strV x.2) w6 := hcv 0
            have hcv1 : (convert 32 9 (.slice A6 n6 c6)).run Try.prog w6.drew = .ok (strV x.2) w6.drew := hcv 1
            subst hA8
            clear hkey hrd6 hrg6 ht6 hG6 e7 hapj hown6 hb8 hx8 hcv
            dsimp only
            unfold bsOf at f1
            go_upto_region 28 with (fail)
            go_region
            repeat (first | go_skip | go_guarded | go_step)
            go_roundw
            case rel => exact ⟨j + 1, G6, by omega, by go_num, HT6.out.later OK.out (belowDrews (Below.refl _ _) 1), HRZ6.out.below (belowDrews (Below.refl _ _) 1), HAZ6.out⟩
            case measure => simp [intOf]; omega
          · obtain rfl : n5 = j := by omega
            have hcj : ¬ (n5 : Int) < (n5 : Int) := by omega
            have HBW := Lib.hid HTZ.out.below
            repeat (first | go_skip | go_guarded | go_step)
            refine (WK.out _).mono ?_
            rintro e wz ⟨rfl, hbz⟩
            have HBZ := Lib.hid (HBW.out.trans (hbz.mono HBW.out.size))
            clear hbz
            dsimp only
            repeat (first | go_skip | go_guarded | go_step)
            go_ret
            exact ⟨rfl, HBZ.out⟩

set_option maxRecDepth 100000 in
theorem lifted {Rg : World → Nat → (Nat → Prop) → List RgE → Prop} (ok : RingOk Rg) (os : Os) (started : os.Started) (H : Type) (enc : TypeId × Value → H) :
    ReturnsInHanded {} Try.checked os 3 .any (Rows.ringPlaysSpec.pre6 enc Try.prog Try.f3 Rows.ringPlaysRow.domain false) (Rows.ringPlaysSpec.post enc Try.prog Try.f3 false true false false) := by
  refine returnsInHanded_of_change_sized (C := Try.checked) ownKR started (by kernel_rfl) Try.func3
    (ChangeSpec.witness6 (enc := enc) (C := Try.checked) false ⟨#[], #[.slice none 0 0], []⟩ 8 (by kernel_rfl) (by kernel_rfl) (by kernel_rfl) (by kernel_rfl)) ?_
  intro W base args ds gs before hval0 hW hcnd hsz0 _
  have hval : ∀ (j : Nat) t v, Try.f3.params[j]? = some t → args[j]? = some v → Value.okWide Try.prog W .any base t v := hval0
  have hlt : ∀ x ∈ before, x.block < W.heap.size := fun x hx => by simpa using hW.lt x hx
  have hW' := hW
  obtain ⟨p, q, hA0, hV, rfl, hfz, hnd⟩ := hW
  have hA : DataW.TrodAll enc Try.prog W 0 (fun _ => true) true Try.f3.params.toList args.toList ds p := hA0
  rw [Try.params3] at hA hval
  obtain ⟨v0, vs0, d0, ds0, p0, q0, hargs, rfl, rfl, h0, r0⟩ := trodAll_cons hA
  obtain ⟨rfl, rfl, rfl⟩ := trodAll_nil r0
  obtain rfl : args = #[v0] := by cases args; simp_all
  obtain ⟨rfl, rfl⟩ := trodVars_none hV
  obtain ⟨A0, n0, c0, Z0, rfl, hk0, hm0, hr0⟩ := open_steps (hval 0 22 v0 rfl rfl) h0 (fun x hx => hlt x (by simp [hx]))
  refine (walkAll ok A0 n0 c0 Z0 W hr0 hk0 hm0).mono fun e W' ⟨he, hg⟩ => ?_
  subst he
  exact ⟨_, rfl, post_law laidOutR rfl (by kernel_rfl) hW' hg rfl Try.underlying4 rfl rfl rfl⟩

theorem proved_of {Rg : World → Nat → (Nat → Prop) → List RgE → Prop} (ok : RingOk Rg) : Rows.RingPlaysSaid :=
  OpenClaim.holds_of_wide 3 Try.f3 rfl rfl rfl rfl rfl rfl rfl ⟨rfl, rfl, rfl, rfl, rfl⟩ rfl rfl rfl rfl rfl (by kernel_rfl) Try.func3 (by kernel_rfl)
    (of_decide_eq_true (by kernel_rfl)) (by unfold Func.isWrapper; first | (rw [if_pos (by decide +kernel)]; kernel_rfl) | (rw [if_neg (by decide +kernel)]; exact ⟨rfl, rfl⟩))
    (fun os started H enc _ => lifted ok os started H enc)
#print axioms proved_of
end Go.Proofs.Ytedgigoelhcfnaa.ringPlays
