/- Layer 6 (wire), the program's reader: rows of conditions; clauses and rules. -/
import Derived.Test.YtcoafgnbmgndeaaWqF
set_option linter.unusedVariables false
set_option linter.unusedSimpArgs false
namespace Go.Proofs.Ytcoafgnbmgndeaa
open Go Go.RowKit

theorem OwG.lower {α : Type} {e : TypeId} {s : Nat} {cl : α × SlA → List Value} {tm : α → List Tm} {w : World} {base base' : Nat} {A : Option Addr} {c n : Nat} {R : List SlA} {L : List α} (h : OwG e s cl tm w base A c n R L) (hb : base' ≤ base) : OwG e s cl tm w base' A c n R L :=
  ⟨h.lenR, h.lenL, ownLower h.top hb, fun i r x h1 h2 => ⟨ownLower (h.row i r x h1 h2).1 hb, (h.row i r x h1 h2).2⟩⟩
def uClause : Rdr Cl := rSeq uAtom (rRow 255 uLit)
def uRule : Rdr Rl := rSeq uSay (rRow 255 uCond)

set_option maxRecDepth 100000 in
set_option maxHeartbeats 4000000 in
theorem takeListL_any (g : Nat) (A : Option Addr) (n c : Nat) (t : Int) (bs : List UInt8) (w : World) (hk0 : Rg w g A n c t 0) (hr : Rd w g 1 A n (bs.map bv)) (hc : n ≤ c) (hm : n ≤ 140737488355328) :
    Calls Try.prog 78 #[.pointer (some ⟨g, 0, none⟩), .func (.func 79) #[.pointer (some ⟨g, 0, none⟩)] #[]] w fun e w' => Ends (rRow 255 uLit) g A n c bs t (fun L u W => ∃ A' m c' R, u = .slice A' m c' ∧ OwL W w.heap.size A' c' m R L) w e w' := by
  have hlt : g < w.heap.size := Bk.lt hk0
  have HK := Lib.hid hk0
  have HR := Lib.hid hr
  have HLT := Lib.hid hlt
  clear hk0 hr hlt
  go_enter Try.func78, Try.ntmps78
  repeat (first | go_skip | go_guarded | go_step)
  refine (single_any g A n c t bs w HK.out HR.out hc hm).mono ?_
  rintro e w1 ⟨ht, ⟨N, k1, _, rfl, rfl, hgot, hg⟩ | ⟨z, t', rfl, hno, hg⟩⟩
  · have hN := hgot.mostB
    have HT := Lib.hid ht
    have HG := Lib.hid hg
    have HO := Lib.hid hgot
    clear ht hg hgot
    dsimp only
    repeat (first | go_skip | go_guarded | go_step)
    go_loopw [5, 8] (fun l' p' wr => ∃ (i : Nat) (A' : Option Addr) (c' : Nat) (R : List SlA) (L : List Li) (k : Nat), i ≤ N ∧ p' = .int .u64 (i : Int) ∧ l' = .slice A' i c' ∧ OwL wr w.heap.size A' c' i R L ∧ Rg wr g A n c k 0 ∧ Turn (fun i => i = g) w wr ∧ Got (rMany uLit i) bs k1 L k) (fun _ p _ => N - (intOf p).toNat)
    case atStart => exact ⟨0, none, 0, [], [], k1, Nat.zero_le _, rfl, rfl, OwG.nil _ _, HG.out, HT.out, HO.out.nought⟩
    case round =>
      obtain ⟨i, A', c', R, L, k, hi, rfl, rfl, ho, hg, htu, hgo⟩ := hrel
      have HO2 := Lib.hid ho
      have HG2 := Lib.hid hg
      have HTU := Lib.hid htu
      have HGO := Lib.hid hgo
      by_cases hlt : i < N
      · have hci : (i : Int) < (N : Int) := by omega
        have HR3 := Lib.hid (htu.rd HR.out (Nat.le_of_lt HLT.out) (fun k hk e => by omega))
        have hsr := htu.size
        have HFAR := Lib.hid (fun k (hk : (Value.slice A' i c').ownBlock = some k) => (World.ownsRow.lt ho.top k hk).2)
        clear ho hg htu hgo
        repeat (first | go_skip | go_guarded | go_step)
        refine (lit_any g A n c k bs wr HG2.out HR3.out hc hm).mono ?_
        rintro e V ⟨ht, ⟨⟨b, q, l2⟩, k4, _, rfl, ⟨Ai, ni, ci, rfl, ho4⟩, hgot, hg⟩ | ⟨z, t', rfl, hno, hg⟩⟩
        · have hsv := ht.size
          have HT3 := Lib.hid (HTU.out.trans ht)
          have HG3 := Lib.hid hg
          have HGT := Lib.hid (HGO.out.snoc hgot)
          have HIF := Lib.hid (fun k (hk : (Value.slice Ai ni ci).ownBlock = some k) => (World.ownsRow.lt ho4 k hk).1)
          have hb8 : Below V.heap.size V (V.alloc (.cells #[.bool b, nv q, .slice Ai ni ci] 71)) := (Below.refl _ _).alloc (Nat.le_refl _) _
          have HO8 := Lib.hid ((HO2.out.turn ht (fun k hk e => by have := HLT.out; omega)).later hb8)
          have HI8 := Lib.hid (ownLower (ownBelow ho4 hb8 (Nat.le_refl _)) hsr)
          have hrd8 : Rd (V.alloc (.cells #[.bool b, nv q, .slice Ai ni ci] 71)) (V.heap.size + 1) 3 (some ⟨V.heap.size, 0, none⟩) 1 (liC (((b, (q, l2)) : Li), (Ai, ni, ci))) := bk_rdS (Bk.new V _ _) _ rfl
          have HRD8 := Lib.hid hrd8
          have hl7 := run_litL1 b q Ai ni ci V
          clear ht hg hgot hrd8 ho4 hb8
          dsimp only
          repeat (first
            | (at_builtin; refine appL _ rfl (.tmp 10) (.tmp 13) rfl w.heap.size A' c' i R L rfl HO8.out _ _ _ ((b, (q, l2)) : Li) (Ai, ni, ci) rfl HRD8.out (by omega) (by simp; omega) HI8.out wr.heap.size HFAR.out HIF.out ?_
               intro A6 c6 V6 ho6 hb6
               have hb7 := (Below.alloc (Below.refl w.heap.size V) (by omega) _).trans hb6
               have HB7 := Lib.hid hb7
               have HO6 := Lib.hid ho6
               clear hl7 hb6 hb7 ho6)
            | go_skip | go_guarded | go_step)
          go_roundw
          case rel => exact ⟨i + 1, A6, c6, R ++ [(Ai, ni, ci)], L ++ [((b, (q, l2)) : Li)], k4, by omega, by go_num, rfl, HO6.out, Bk.below HG3.out HB7.out HLT.out, HT3.out.then_ (Turn.ofBelowB (G := fun k => w.heap.size ≤ k) HB7.out (fun k h _ => h)) (fun k hk h => absurd hk (by omega)), HGT.out⟩
          case measure => simp [intOf] <;> omega
        · exact ⟨rfl, HTU.out.trans ht, .inr ⟨z, t', rfl, HO.out.nopeRow ((HGO.out.nopeS hno).more (by omega)), hg⟩⟩
      · obtain rfl : i = N := by omega
        clear ho hg htu hgo
        repeat (first | go_skip | go_guarded | go_step)
        go_ret
        exact ⟨HTU.out, .inl ⟨L, k, _, rfl, ⟨A', i, c', R, rfl, HO2.out⟩, HO.out.row HGO.out, HG2.out⟩⟩
  · exact ⟨rfl, ht, .inr ⟨z, t', rfl, hno.row, hg⟩⟩

set_option maxRecDepth 100000 in
set_option maxHeartbeats 4000000 in
theorem takeListK_any (g : Nat) (A : Option Addr) (n c : Nat) (t : Int) (bs : List UInt8) (w : World) (hk0 : Rg w g A n c t 0) (hr : Rd w g 1 A n (bs.map bv)) (hc : n ≤ c) (hm : n ≤ 140737488355328) :
    Calls Try.prog 88 #[.pointer (some ⟨g, 0, none⟩), .func (.func 89) #[.pointer (some ⟨g, 0, none⟩)] #[]] w fun e w' => Ends (rRow 255 uCond) g A n c bs t (fun L u W => ∃ A' m c' R, u = .slice A' m c' ∧ OwK W w.heap.size A' c' m R L) w e w' := by
  have hlt : g < w.heap.size := Bk.lt hk0
  have HK := Lib.hid hk0
  have HR := Lib.hid hr
  have HLT := Lib.hid hlt
  clear hk0 hr hlt
  go_enter Try.func88, Try.ntmps88
  repeat (first | go_skip | go_guarded | go_step)
  refine (single_any g A n c t bs w HK.out HR.out hc hm).mono ?_
  rintro e w1 ⟨ht, ⟨N, k1, _, rfl, rfl, hgot, hg⟩ | ⟨z, t', rfl, hno, hg⟩⟩
  · have hN := hgot.mostB
    have HT := Lib.hid ht
    have HG := Lib.hid hg
    have HO := Lib.hid hgot
    clear ht hg hgot
    dsimp only
    repeat (first | go_skip | go_guarded | go_step)
    go_loopw [5, 8] (fun l' p' wr => ∃ (i : Nat) (A' : Option Addr) (c' : Nat) (R : List SlA) (L : List Co) (k : Nat), i ≤ N ∧ p' = .int .u64 (i : Int) ∧ l' = .slice A' i c' ∧ OwK wr w.heap.size A' c' i R L ∧ Rg wr g A n c k 0 ∧ Turn (fun i => i = g) w wr ∧ Got (rMany uCond i) bs k1 L k) (fun _ p _ => N - (intOf p).toNat)
    case atStart => exact ⟨0, none, 0, [], [], k1, Nat.zero_le _, rfl, rfl, OwG.nil _ _, HG.out, HT.out, HO.out.nought⟩
    case round =>
      obtain ⟨i, A', c', R, L, k, hi, rfl, rfl, ho, hg, htu, hgo⟩ := hrel
      have HO2 := Lib.hid ho
      have HG2 := Lib.hid hg
      have HTU := Lib.hid htu
      have HGO := Lib.hid hgo
      by_cases hlt : i < N
      · have hci : (i : Int) < (N : Int) := by omega
        have HR3 := Lib.hid (htu.rd HR.out (Nat.le_of_lt HLT.out) (fun k hk e => by omega))
        have hsr := htu.size
        have HFAR := Lib.hid (fun k (hk : (Value.slice A' i c').ownBlock = some k) => (World.ownsRow.lt ho.top k hk).2)
        clear ho hg htu hgo
        repeat (first | go_skip | go_guarded | go_step)
        refine (cond_any g A n c k bs wr HG2.out HR3.out hc hm).mono ?_
        rintro e V ⟨ht, ⟨⟨b, s, x, q, l2⟩, k4, _, rfl, ⟨Ai, ni, ci, rfl, ho4⟩, hgot, hg⟩ | ⟨z, t', rfl, hno, hg⟩⟩
        · have hsv := ht.size
          have HT3 := Lib.hid (HTU.out.trans ht)
          have HG3 := Lib.hid hg
          have HGT := Lib.hid (HGO.out.snoc hgot)
          have HIF := Lib.hid (fun k (hk : (Value.slice Ai ni ci).ownBlock = some k) => (World.ownsRow.lt ho4 k hk).1)
          have hb8 : Below V.heap.size V (V.alloc (.cells #[.bool b, .bool s, .bool x.1, nv x.2, nv q, .slice Ai ni ci] 99)) := (Below.refl _ _).alloc (Nat.le_refl _) _
          have HO8 := Lib.hid ((HO2.out.turn ht (fun k hk e => by have := HLT.out; omega)).later hb8)
          have HI8 := Lib.hid (ownLower (ownBelow ho4 hb8 (Nat.le_refl _)) hsr)
          have hrd8 : Rd (V.alloc (.cells #[.bool b, .bool s, .bool x.1, nv x.2, nv q, .slice Ai ni ci] 99)) (V.heap.size + 1) 6 (some ⟨V.heap.size, 0, none⟩) 1 (coC (((b, (s, x, (q, l2))) : Co), (Ai, ni, ci))) := bk_rdS (Bk.new V _ _) _ rfl
          have HRD8 := Lib.hid hrd8
          have hl7 := run_litK1 b s x q Ai ni ci V
          clear ht hg hgot hrd8 ho4 hb8
          dsimp only
          repeat (first
            | (at_builtin; refine appK _ rfl (.tmp 10) (.tmp 13) rfl w.heap.size A' c' i R L rfl HO8.out _ _ _ ((b, (s, x, (q, l2))) : Co) (Ai, ni, ci) rfl HRD8.out (by omega) (by simp; omega) HI8.out wr.heap.size HFAR.out HIF.out ?_
               intro A6 c6 V6 ho6 hb6
               have hb7 := (Below.alloc (Below.refl w.heap.size V) (by omega) _).trans hb6
               have HB7 := Lib.hid hb7
               have HO6 := Lib.hid ho6
               clear hl7 hb6 hb7 ho6)
            | go_skip | go_guarded | go_step)
          go_roundw
          case rel => exact ⟨i + 1, A6, c6, R ++ [(Ai, ni, ci)], L ++ [((b, (s, x, (q, l2))) : Co)], k4, by omega, by go_num, rfl, HO6.out, Bk.below HG3.out HB7.out HLT.out, HT3.out.then_ (Turn.ofBelowB (G := fun k => w.heap.size ≤ k) HB7.out (fun k h _ => h)) (fun k hk h => absurd hk (by omega)), HGT.out⟩
          case measure => simp [intOf] <;> omega
        · exact ⟨rfl, HTU.out.trans ht, .inr ⟨z, t', rfl, HO.out.nopeRow ((HGO.out.nopeS hno).more (by omega)), hg⟩⟩
      · obtain rfl : i = N := by omega
        clear ho hg htu hgo
        repeat (first | go_skip | go_guarded | go_step)
        go_ret
        exact ⟨HTU.out, .inl ⟨L, k, _, rfl, ⟨A', i, c', R, rfl, HO2.out⟩, HO.out.row HGO.out, HG2.out⟩⟩
  · exact ⟨rfl, ht, .inr ⟨z, t', rfl, hno.row, hg⟩⟩

set_option maxRecDepth 100000 in
set_option maxHeartbeats 4000000 in
theorem clause_any (g : Nat) (A : Option Addr) (n c : Nat) (t : Int) (bs : List UInt8) (w : World) (hk0 : Rg w g A n c t 0) (hr : Rd w g 1 A n (bs.map bv)) (hc : n ≤ c) (hm : n ≤ 140737488355328) :
    Calls Try.prog 51 #[.pointer (some ⟨g, 0, none⟩)] w fun e w' => Ends uClause g A n c bs t (fun x u W => ∃ A1 m1 c1 A2 m2 c2 R, u = .agg #[nv x.1.1, .slice A1 m1 c1, .slice A2 m2 c2] ∧ OwT W w.heap.size A1 c1 m1 x.1.2 ∧ OwL W w.heap.size A2 c2 m2 R x.2) w e w' := by
  have hmf : ∀ (fn : Fn) (first cap : Array Value) (w : World), (Instr.makeFunc fn first cap).run Try.prog w = .ok (.func fn first cap) w := fun _ _ _ _ => rfl
  have hlt : g < w.heap.size := Bk.lt hk0
  obtain ⟨U, hU, hK, hH, hbU⟩ : ∃ U, U = w.alloc (.cells #[.int .u32 0, .slice none 0 0, .slice none 0 0] 45) ∧ Rg U g A n c t 0 ∧ Bk U w.heap.size 45 [.int .u32 0, .slice none 0 0, .slice none 0 0] ∧ Below w.heap.size w U :=
    ⟨_, rfl, Bk.alloc hk0 _, Bk.new w _ _, (Below.refl _ _).alloc (Nat.le_refl _) _⟩
  have HU := Lib.hid hU
  have HK := Lib.hid hK
  have HH := Lib.hid hH
  have HB := Lib.hid hbU
  have HR := Lib.hid (hr.below (hbU.mono (Nat.le_of_lt hlt)))
  have HG0 := Lib.hid hlt
  clear hU hK hH hbU hr hk0 hlt
  go_enter Try.func51, Try.ntmps51
  go_upto_region 1 with (fail)
  rw [← HU.out]
  clear HU
  generalize hh2 : w.heap.size = h2 at HH HB HG0 ⊢
  have HWU := Lib.hid (Turn.ofBelow (G := fun i => i = g) (show Below w.heap.size w U by rw [hh2]; exact HB.out))
  repeat (first | go_skip | go_guarded | go_step)
  refine (atom_any g A n c t bs U HK.out HR.out hc hm).mono ?_
  rintro e w1 ⟨ht, ⟨⟨p, l⟩, k, _, rfl, ⟨A1, m1, c1, rfl, ho1⟩, hgot, hg⟩ | ⟨z, t', rfl, hno, hg⟩⟩
  · have HH1 := Lib.hid (ht.bk HH.out (fun e => by have := HG0.out; omega))
    have HS0 := Lib.hid HH.out.lt
    have HT := Lib.hid (HWU.out.trans ht)
    have HR1 := Lib.hid (ht.rd HR.out (by have := HH.out.lt; have := HG0.out; omega) (fun k hk e => by omega))
    have HG := Lib.hid hg
    have HO := Lib.hid hgot
    have HO1 := Lib.hid ho1
    clear ht hg hgot ho1
    dsimp only
    repeat (first | go_skip | go_guarded | go_step)
    refine (takeListL_any g A n c k bs w1 HG.out HR1.out hc hm).mono ?_
    rintro e w2 ⟨ht2, ⟨L, k2, _, rfl, ⟨A2, m2, c2, R, rfl, ho⟩, hgot2, hg2⟩ | ⟨z, t', rfl, hno, hg2⟩⟩
    · have hh := ht2.bk HH1.out (fun e => by have := HG0.out; omega)
      have r0 := hh.readT (Below.refl _ _) 0 rfl
      have f0 := hh.frozen 0
      have r1 := hh.readT (Below.refl _ _) 1 rfl
      have f1 := hh.frozen 1
      have r2 := hh.readT (Below.refl _ _) 2 rfl
      have f2 := hh.frozen 2
      have HH2 := Lib.hid hh
      have HT2 := Lib.hid (HT.out.trans ht2)
      have HG2 := Lib.hid hg2
      have HO2 := Lib.hid ho
      have HO12 := Lib.hid (ht2.own HO1.out (fun k hk e => by have := (World.ownsRow.lt HO1.out k hk).1; have := HG0.out; have := HS0.out; omega))
      have HGO := Lib.hid hgot2
      have HS1 := Lib.hid HH1.out.lt
      clear ht2 hg2 hh ho hgot2
      dsimp only
      repeat (first | go_skip | go_guarded | go_step)
      refine bodyPost_ret (v := .agg #[nv p, (.slice A1 m1 c1), (.slice A2 m2 c2)]) ?_ rfl ⟨(((HT2.out.setCell (p := ⟨h2, 0, none⟩) (fun h => absurd (show h2 < w.heap.size from h) (by omega)) _).setCell (p := ⟨h2, 1, none⟩) (fun h => absurd (show h2 < w.heap.size from h) (by omega)) _).setCell (p := ⟨h2, 2, none⟩) (fun h => absurd (show h2 < w.heap.size from h) (by omega)) _), .inl ⟨((p, l), L), k2, _, rfl, ⟨A1, m1, c1, A2, m2, c2, R, rfl, ?_, ?_⟩, HO.out.seq HGO.out, Bk.far (Bk.far (Bk.far (HG2.out) (show g ≠ h2 by have := HG0.out; omega) _) (show g ≠ h2 by have := HG0.out; omega) _) (show g ≠ h2 by have := HG0.out; omega) _⟩⟩
      · have hq := (((HH2.out.set_ 0 (nv p)).set_ 1 ((.slice A1 m1 c1))).set_ 2 ((.slice A2 m2 c2)))
        have q0 := hq.readT (Below.refl _ _) 0 rfl
        have q1 := hq.readT (Below.refl _ _) 1 rfl
        have q2 := hq.readT (Below.refl _ _) 2 rfl
        simp [results, Try.results51, go_sem, q0, q1, q2]
      · exact ownLower ((((tkTurn w2 h2 0 _).trans (tkTurn _ h2 1 _)).trans (tkTurn _ h2 2 _)).own HO12.out (fun k hk e => by have := (World.ownsRow.lt HO12.out k hk).1; have := HS0.out; omega)) (by have := HS0.out; omega)
      · exact OwG.lower (HO2.out.turn (((tkTurn w2 h2 0 _).trans (tkTurn _ h2 1 _)).trans (tkTurn _ h2 2 _)) (fun k hk e => by have := HS1.out; omega)) (by have := HS1.out; omega)
    · exact ⟨rfl, HT.out.trans ht2, .inr ⟨z, t', rfl, HO.out.nope2 hno, hg2⟩⟩
  · exact ⟨rfl, HWU.out.trans ht, .inr ⟨z, t', rfl, hno.seq1, hg⟩⟩

set_option maxRecDepth 100000 in
set_option maxHeartbeats 4000000 in
theorem rule_any (g : Nat) (A : Option Addr) (n c : Nat) (t : Int) (bs : List UInt8) (w : World) (hk0 : Rg w g A n c t 0) (hr : Rd w g 1 A n (bs.map bv)) (hc : n ≤ c) (hm : n ≤ 140737488355328) :
    Calls Try.prog 60 #[.pointer (some ⟨g, 0, none⟩)] w fun e w' => Ends uRule g A n c bs t (fun x u W => ∃ A1 m1 c1 A2 m2 c2 R, u = .agg #[.bool x.1.1, .bool x.1.2.1.1, nv x.1.2.1.2, nv x.1.2.2.1, .slice A1 m1 c1, .slice A2 m2 c2] ∧ OwT W w.heap.size A1 c1 m1 x.1.2.2.2 ∧ OwK W w.heap.size A2 c2 m2 R x.2) w e w' := by
  have hmf : ∀ (fn : Fn) (first cap : Array Value) (w : World), (Instr.makeFunc fn first cap).run Try.prog w = .ok (.func fn first cap) w := fun _ _ _ _ => rfl
  have hlt : g < w.heap.size := Bk.lt hk0
  obtain ⟨U, hU, hK, hH, hbU⟩ : ∃ U, U = w.alloc (.cells #[.bool false, .bool false, .int .u32 0, .int .u32 0, .slice none 0 0, .slice none 0 0] 59) ∧ Rg U g A n c t 0 ∧ Bk U w.heap.size 59 [.bool false, .bool false, .int .u32 0, .int .u32 0, .slice none 0 0, .slice none 0 0] ∧ Below w.heap.size w U :=
    ⟨_, rfl, Bk.alloc hk0 _, Bk.new w _ _, (Below.refl _ _).alloc (Nat.le_refl _) _⟩
  have HU := Lib.hid hU
  have HK := Lib.hid hK
  have HH := Lib.hid hH
  have HB := Lib.hid hbU
  have HR := Lib.hid (hr.below (hbU.mono (Nat.le_of_lt hlt)))
  have HG0 := Lib.hid hlt
  clear hU hK hH hbU hr hk0 hlt
  go_enter Try.func60, Try.ntmps60
  go_upto_region 1 with (fail)
  rw [← HU.out]
  clear HU
  generalize hh2 : w.heap.size = h2 at HH HB HG0 ⊢
  have HWU := Lib.hid (Turn.ofBelow (G := fun i => i = g) (show Below w.heap.size w U by rw [hh2]; exact HB.out))
  repeat (first | go_skip | go_guarded | go_step)
  refine (say_any g A n c t bs U HK.out HR.out hc hm).mono ?_
  rintro e w1 ⟨ht, ⟨⟨s0, ⟨x0, x1⟩, p, l⟩, k, _, rfl, ⟨A1, m1, c1, rfl, ho1⟩, hgot, hg⟩ | ⟨z, t', rfl, hno, hg⟩⟩
  · have HH1 := Lib.hid (ht.bk HH.out (fun e => by have := HG0.out; omega))
    have HS0 := Lib.hid HH.out.lt
    have HT := Lib.hid (HWU.out.trans ht)
    have HR1 := Lib.hid (ht.rd HR.out (by have := HH.out.lt; have := HG0.out; omega) (fun k hk e => by omega))
    have HG := Lib.hid hg
    have HO := Lib.hid hgot
    have HO1 := Lib.hid ho1
    clear ht hg hgot ho1
    dsimp only
    repeat (first | go_skip | go_guarded | go_step)
    refine (takeListK_any g A n c k bs w1 HG.out HR1.out hc hm).mono ?_
    rintro e w2 ⟨ht2, ⟨L, k2, _, rfl, ⟨A2, m2, c2, R, rfl, ho⟩, hgot2, hg2⟩ | ⟨z, t', rfl, hno, hg2⟩⟩
    · have hh := ht2.bk HH1.out (fun e => by have := HG0.out; omega)
      have r0 := hh.readT (Below.refl _ _) 0 rfl
      have f0 := hh.frozen 0
      have r1 := hh.readT (Below.refl _ _) 1 rfl
      have f1 := hh.frozen 1
      have r2 := hh.readT (Below.refl _ _) 2 rfl
      have f2 := hh.frozen 2
      have r3 := hh.readT (Below.refl _ _) 3 rfl
      have f3 := hh.frozen 3
      have r4 := hh.readT (Below.refl _ _) 4 rfl
      have f4 := hh.frozen 4
      have r5 := hh.readT (Below.refl _ _) 5 rfl
      have f5 := hh.frozen 5
      have HH2 := Lib.hid hh
      have HT2 := Lib.hid (HT.out.trans ht2)
      have HG2 := Lib.hid hg2
      have HO2 := Lib.hid ho
      have HO12 := Lib.hid (ht2.own HO1.out (fun k hk e => by have := (World.ownsRow.lt HO1.out k hk).1; have := HG0.out; have := HS0.out; omega))
      have HGO := Lib.hid hgot2
      have HS1 := Lib.hid HH1.out.lt
      clear ht2 hg2 hh ho hgot2
      dsimp only
      repeat (first | go_skip | go_guarded | go_step)
      refine bodyPost_ret (v := .agg #[.bool s0, .bool x0, nv x1, nv p, (.slice A1 m1 c1), (.slice A2 m2 c2)]) ?_ rfl ⟨((((((HT2.out.setCell (p := ⟨h2, 0, none⟩) (fun h => absurd (show h2 < w.heap.size from h) (by omega)) _).setCell (p := ⟨h2, 1, none⟩) (fun h => absurd (show h2 < w.heap.size from h) (by omega)) _).setCell (p := ⟨h2, 2, none⟩) (fun h => absurd (show h2 < w.heap.size from h) (by omega)) _).setCell (p := ⟨h2, 3, none⟩) (fun h => absurd (show h2 < w.heap.size from h) (by omega)) _).setCell (p := ⟨h2, 4, none⟩) (fun h => absurd (show h2 < w.heap.size from h) (by omega)) _).setCell (p := ⟨h2, 5, none⟩) (fun h => absurd (show h2 < w.heap.size from h) (by omega)) _), .inl ⟨((s0, (x0, x1), (p, l)), L), k2, _, rfl, ⟨A1, m1, c1, A2, m2, c2, R, rfl, ?_, ?_⟩, HO.out.seq HGO.out, Bk.far (Bk.far (Bk.far (Bk.far (Bk.far (Bk.far (HG2.out) (show g ≠ h2 by have := HG0.out; omega) _) (show g ≠ h2 by have := HG0.out; omega) _) (show g ≠ h2 by have := HG0.out; omega) _) (show g ≠ h2 by have := HG0.out; omega) _) (show g ≠ h2 by have := HG0.out; omega) _) (show g ≠ h2 by have := HG0.out; omega) _⟩⟩
      · have hq := ((((((HH2.out.set_ 0 (.bool s0)).set_ 1 (.bool x0)).set_ 2 (nv x1)).set_ 3 (nv p)).set_ 4 ((.slice A1 m1 c1))).set_ 5 ((.slice A2 m2 c2)))
        have q0 := hq.readT (Below.refl _ _) 0 rfl
        have q1 := hq.readT (Below.refl _ _) 1 rfl
        have q2 := hq.readT (Below.refl _ _) 2 rfl
        have q3 := hq.readT (Below.refl _ _) 3 rfl
        have q4 := hq.readT (Below.refl _ _) 4 rfl
        have q5 := hq.readT (Below.refl _ _) 5 rfl
        simp [results, Try.results60, go_sem, q0, q1, q2, q3, q4, q5]
      · exact ownLower (((((((tkTurn w2 h2 0 _).trans (tkTurn _ h2 1 _)).trans (tkTurn _ h2 2 _)).trans (tkTurn _ h2 3 _)).trans (tkTurn _ h2 4 _)).trans (tkTurn _ h2 5 _)).own HO12.out (fun k hk e => by have := (World.ownsRow.lt HO12.out k hk).1; have := HS0.out; omega)) (by have := HS0.out; omega)
      · exact OwG.lower (HO2.out.turn ((((((tkTurn w2 h2 0 _).trans (tkTurn _ h2 1 _)).trans (tkTurn _ h2 2 _)).trans (tkTurn _ h2 3 _)).trans (tkTurn _ h2 4 _)).trans (tkTurn _ h2 5 _)) (fun k hk e => by have := HS1.out; omega)) (by have := HS1.out; omega)
    · exact ⟨rfl, HT.out.trans ht2, .inr ⟨z, t', rfl, HO.out.nope2 hno, hg2⟩⟩
  · exact ⟨rfl, HWU.out.trans ht, .inr ⟨z, t', rfl, hno.seq1, hg⟩⟩
end Go.Proofs.Ytcoafgnbmgndeaa
