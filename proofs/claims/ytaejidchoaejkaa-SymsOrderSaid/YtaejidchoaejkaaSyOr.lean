/- SymsOrder: names are numbered as they first come, without a gap; the table of what a table lists is the same; putting all of it again, in whatever order, turns nothing. No condition. -/
import Derived.Test.YtaejidchoaejkaaSyQ
import Derived.Test.YtaejidchoaejkaaSyG
import Derived.Test.YtaejidchoaejkaaSyC
import Derived.Test.YtaejidchoaejkaaSyO
import Derived.Test.YtaejidchoaejkaaSyY
set_option linter.unusedVariables false
set_option linter.unusedSimpArgs false
namespace Go.Proofs.Ytaejidchoaejkaa.symsOrder
open Go Go.RowKit Go.ChangeShapes Go.WideShapes Go.ChangeAt

theorem few_all (A : Option Addr) (n c : Nat) (l : List ByteArray) (w : World) (h : Rd w w.heap.size 1 A n (l.map sv)) :
    Calls Try.prog 8 #[.slice A n c] w fun e w' => e = .returned (.bool (decide (n ≤ 300) && fewB l)) ∧ w = w' := by
  by_cases hn : n ≤ 300
  · rw [decide_eq_true hn, Bool.true_and]
    exact few_any A n c _ l w h hn
  · rw [decide_eq_false hn, Bool.false_and]
    exact few_big A n c w (by omega)
theorem findZ_some {l : List ByteArray} {s : ByteArray} {k : Nat} (h : findO l s = some k) : findZ l s = (k : Int) := by unfold findZ; rw [h]
theorem findZ_none {l : List ByteArray} {s : ByteArray} (h : findO l s = none) : findZ l s = -1 := by unfold findZ; rw [h]
theorem findZ_step {l : List ByteArray} (h : l.Nodup) {k : Nat} {x : ByteArray} (hx : l[k]? = some x) (s : ByteArray) : findZ (l.take (k + 1)) s = if s = x then (k : Int) else findZ (l.take k) s := by
  have hk : k < l.length := (List.getElem?_eq_some_iff.1 hx).1
  have hn : findO (l.take k) x = none := findO_none fun j y hj e => by
    rw [List.getElem?_take] at hj
    split at hj
    · rename_i hjk
      exact nodup_ne h hjk hx hj e.symm
    · cases hj
  rw [List.take_add_one, hx, Option.toList_some]
  unfold findZ
  rw [findO_append _ s x hn]
  by_cases he : s = x
  · rw [if_pos he, if_pos he]
    simp
    omega
  · rw [if_neg he, if_neg he]

set_option maxRecDepth 100000 in
set_option maxHeartbeats 1000000 in
theorem walkBig (hmay : MayOk) (A0 A1 : Option Addr) (n0 c0 n1 c1 : Nat) (l0 : List ByteArray) (w : World) (h0 : Rd w w.heap.size 1 A0 n0 (l0.map sv))
    (hb : (decide (n0 ≤ 300) && fewB l0) = false ∨ 60 < n1) :
    Calls Try.prog 7 #[.slice A0 n0 c0, .slice A1 n1 c1] w fun e w' => e = .returned (.bool true) ∧ Below w.heap.size w w' := by
  have HF0 := Lib.hid (few_all A0 n0 c0 l0 w h0)
  clear h0
  generalize (decide (n0 ≤ 300) && fewB l0) = b0 at *
  cases b0 with
  | false =>
    go_enter Try.func7, Try.ntmps7
    repeat go_step
    refine HF0.out.mono ?_
    rintro e w1 ⟨rfl, rfl⟩
    dsimp only
    go_wp2_with (go_at_call 9; refine (works_any hmay _).mono ?_; rintro e w2 ⟨rfl, hb2⟩)
    go_ret
    exact ⟨rfl, hb2⟩
  | true =>
    have e1 : 60 < n1 := by rcases hb with h | h <;> simp_all
    have hd : decide ((60 : Int) < (n1 : Int)) = true := by simp; omega
    go_enter Try.func7, Try.ntmps7
    repeat go_step
    refine HF0.out.mono ?_
    rintro e w1 ⟨rfl, rfl⟩
    dsimp only
    go_wp2_with (go_at_call 9; refine (works_any hmay _).mono ?_; rintro e w2 ⟨rfl, hb2⟩)
    go_ret
    exact ⟨rfl, hb2⟩

set_option maxRecDepth 100000 in
set_option maxHeartbeats 8000000 in
theorem walk (hmay : MayOk) (A0 A1 : Option Addr) (n0 c0 n1 c1 : Nat) (l0 : List ByteArray) (ag : List UInt8) (w : World) (h0 : Rd w w.heap.size 1 A0 n0 (l0.map sv)) (h1 : Rd w w.heap.size 1 A1 n1 (ag.map bv))
    (hf0 : (decide (n0 ≤ 300) && fewB l0) = true) (hn1 : n1 ≤ 60) :
    Calls Try.prog 7 #[.slice A0 n0 c0, .slice A1 n1 c1] w fun e w' => e = .returned (.bool true) ∧ Below w.heap.size w w' := by
  have HF0 := Lib.hid (few_all A0 n0 c0 l0 w h0)
  rw [hf0] at HF0
  simp only [Bool.and_eq_true, decide_eq_true_eq] at hf0
  obtain ⟨hn0, hq0⟩ := hf0
  have hd60 : decide ((60 : Int) < (n1 : Int)) = false := by simp; omega
  have HS0 := Lib.hid (show ∀ s ∈ l0, s.size ≤ 200 from fun s hs => by simpa using List.all_eq_true.1 hq0 s hs)
  have H0 := Lib.hid h0
  have H1 := Lib.hid h1
  clear h0 h1 hq0
  go_enter Try.func7, Try.ntmps7
  repeat go_step
  refine HF0.out.mono ?_
  rintro e w1 ⟨rfl, rfl⟩
  dsimp only
  repeat (first | go_skip | go_guarded | go_step)
  refine (tNew w).mono ?_
  rintro e W0 ⟨g, F0, rfl, t0, hF0, hb0⟩
  dsimp only
  repeat go_step
  go_loopw [6, 7] (fun q p wr => ∃ (i : Nat) (F : Nat → Prop) (acc : List ByteArray) (Ao : Option Addr) (co : Nat), i ≤ n0 ∧ p = .int .i64 (i : Int) ∧ q = .slice Ao acc.length co ∧ Good i acc ∧ Tb wr g F acc ∧ (∀ k, F k → w.heap.size ≤ k) ∧
      OwS wr w.heap.size Ao co acc.length acc ∧ (∀ k, F k → (Value.slice Ao acc.length co).ownBlock ≠ some k) ∧ Below w.heap.size w wr)
    (fun _ p _ => n0 - (intOf p).toNat)
  case atStart => exact ⟨0, F0, [], none, 0, by omega, rfl, rfl, Good.nil _, t0, hF0, World.ownsRow_nil _ _ _ _, fun k hk e => by simp [Value.ownBlock] at e, hb0⟩
  case round =>
    clear t0 hF0 hb0
    obtain ⟨i, F, acc, Ao, co, hi, rfl, rfl, hgd, htb, hX, how, hFw, hbw⟩ := hrel
    by_cases hlt : i < n0
    · have hci : (i : Int) < (n0 : Int) := by omega
      obtain ⟨b, o, s, hA, hbb, hx, hc⟩ := rdS_at (H0.out.below hbw) hlt
      subst hA
      have hsz := HS0.out s (List.mem_of_getElem? hx)
      have hal := hgd.len
      have hgd1 := putL_good s hgd (by omega)
      have HC := Lib.hid ((hbw.cell (p := ⟨b, o + i, none⟩) hbb).symm.trans hc)
      have hno : mayB s = false → putL acc s = (acc, 0, 8) ∧ findO acc s = none := putL_no hgd
      have HNO := Lib.hid hno
      have HX := Lib.hid hX
      have HGD1 := Lib.hid hgd1
      have HGD := Lib.hid hgd
      have HHO := Lib.hid how
      have HFW := Lib.hid hFw
      clear hx hX hgd hgd1 hno how hFw
      repeat go_step
      refine (tPut g F acc s wr htb (by omega) (by omega) (fun W => hmay s W (by omega))).mono ?_
      rintro e V0 ⟨rfl, F1, htb1, ht1, hF1⟩
      have hbw1 : Below w.heap.size w V0 := hbw.trans (ht1.below (fun k _ hk => HX.out k hk) hbw.size)
      have how1 := ht1.own HHO.out (fun k hk hF => HFW.out k hF hk)
      have hX1 : ∀ k, F1 k → w.heap.size ≤ k := fun k hk => by
        rcases hF1 k hk with h | h
        · exact HX.out k h
        · exact Nat.le_trans hbw.size h
      have hFw1 : ∀ k, F1 k → (Value.slice Ao acc.length co).ownBlock ≠ some k := fun k hk e => by
        rcases hF1 k hk with h | h
        · exact HFW.out k h e
        · have := (World.ownsRow.lt HHO.out k e).2
          omega
      have hc1 : V0.cell? ⟨b, o + i, none⟩ = some (sv s) := (hbw1.cell (p := ⟨b, o + i, none⟩) hbb).trans HC.out
      have HX1 := Lib.hid hX1
      have HHO1 := Lib.hid how1
      have HFW1 := Lib.hid hFw1
      clear htb hbw ht1 hF1 hX1 how1 hFw1 HX HHO HFW hc
      dsimp only
      cases hm : mayB s with
      | false =>
        have hp := (HNO.out hm).1
        rw [hp] at HGD1 htb1 ⊢
        have HN := Lib.hid hm
        clear hp HNO hm
        dsimp only
        go_wp2_with (go_at_call 15; refine (hmay s _ (by omega)).mono ?_; rintro e w2 ⟨rfl, rfl⟩; rw [HN.out])
        go_roundw
        case rel => exact ⟨i + 1, F1, acc, Ao, co, by omega, by go_num, rfl, HGD.out.mono (by omega), htb1, HX1.out, HHO1.out, HFW1.out, hbw1⟩
        case measure => simp [intOf]; omega
      | true =>
        clear HNO
        obtain ⟨acc1, num, hp, hnum, hacc⟩ : ∃ acc1 num, putL acc s = (acc1, num, 0) ∧ (num : Int) = (if findZ acc s < 0 then (acc.length : Int) else findZ acc s) ∧ acc1 = (if findZ acc s < 0 then acc ++ [s] else acc) := by
          cases hf : findO acc s with
          | some k => exact ⟨acc, k, putL_old hm hf, by rw [findZ_some hf, if_neg (by omega)], by rw [findZ_some hf, if_neg (by omega)]⟩
          | none => exact ⟨acc ++ [s], acc.length, putL_new hm hf (by omega), by rw [findZ_none hf]; simp, by rw [findZ_none hf]; simp⟩
        rw [hp] at HGD1 htb1 ⊢
        have HNUM := Lib.hid hnum
        have HACC := Lib.hid hacc
        have hnub : num ≤ 300 := by
          cases hf : findO acc s with
          | some k => rw [putL_old hm hf] at hp; cases hp; have := findO_lt hf; omega
          | none => rw [putL_new hm hf (by omega)] at hp; cases hp; omega
        clear hp hnum hacc hm
        dsimp only at htb1 ⊢
        have hrn : Rd V0 V0.heap.size 1 Ao acc.length (acc.map sv) := Rd.ofOwn HHO1.out
        have HRN := Lib.hid hrn
        clear hrn
        repeat go_step
        go_loopw [10, 11] (fun q p wr => ∃ (k : Nat), k ≤ acc.length ∧ p = .int .i64 (k : Int) ∧ q = .int .i64 (findZ (acc.take k) s) ∧ ∃ z, wr = V0.drewN z)
          (fun _ p _ => acc.length - (intOf p).toNat)
        case atStart => exact ⟨0, by omega, rfl, rfl, 0, rfl⟩
        case round =>
          obtain ⟨k, hk, rfl, rfl, z, rfl⟩ := hrel
          by_cases hlk : k < acc.length
          · have hck : (k : Int) < (acc.length : Int) := by omega
            obtain ⟨b', o', x, hA', hbb', hy, hc'⟩ := rdS_at HRN.out hlk
            subst hA'
            have hst := findZ_step HGD.out.nodup hy s
            obtain ⟨V2, hV2⟩ : ∃ V, V = V0.drewN z := ⟨_, rfl⟩
            have HC1 : Hid (V2.drew.cell? ⟨b, o + i, none⟩ = some (sv s)) := by rw [hV2]; exact hc1
            have HC' : Hid (V2.drew.cell? ⟨b', o' + k, none⟩ = some (sv x)) := by rw [hV2]; exact hc'
            have HV2 := Lib.hid hV2
            rw [← hV2]
            by_cases he : x = s
            · subst he
              rw [if_pos rfl] at hst
              have HST := Lib.hid hst
              clear hst hy hc' hV2
              repeat go_step
              refine wp_region_any (by kernel_rfl) ?_
              try (change wpAny _ _ _ _ _ _ _ (World.drew _))
              refine wpAny_meet (b := ?ad183) (fun V => V = World.drew V2) ?cd183 ?rd183
              case rd183 =>
                intro hEnd
                have hf0 : World.drew V2 = World.drew V2 := rfl
                refine wpAny_take (i := 0) (oi := ?oid184) (v := ?vd184) ?hod184 (by kernel_rfl) ?hfd184 ?hrd184 ?hQd184 ?hyd184 ?restd184
                case hod184 => (simp only [List.getElem?_toArray, List.getElem?_cons_succ, List.getElem?_cons_zero]; exact rfl)
                case hfd184 => kernel_rfl
                case hrd184 => kernel_rfl
                case hQd184 => exact fun _ _ _ h => h
                case hyd184 =>
                  refine Or.inl ⟨by rfl, ?_⟩
                  intro w
                  go_simp
                  (try with_reducible rfl)
                try simp only [Act.put, List.setIfInBounds_toArray, List.set_cons_zero, List.set_cons_succ]
                refine wpAny_take (i := 1) (oi := ?oid185) (v := ?vd185) ?hod185 (by kernel_rfl) ?hfd185 ?hrd185 ?hQd185 ?hyd185 ?restd185
                case hod185 => (simp only [List.getElem?_toArray, List.getElem?_cons_succ, List.getElem?_cons_zero]; exact rfl)
                case hfd185 => kernel_rfl
                case hrd185 => kernel_rfl
                case hQd185 => exact fun _ _ _ h => h
                case hyd185 =>
                  refine Or.inl ⟨by rfl, ?_⟩
                  intro w
                  go_simp
                  (try with_reducible rfl)
                try simp only [Act.put, List.setIfInBounds_toArray, List.set_cons_zero, List.set_cons_succ]
                refine wpAny_take (i := 2) (oi := ?oid186) (v := ?vd186) ?hod186 (by kernel_rfl) ?hfd186 ?hrd186 ?hQd186 ?hyd186 ?restd186
                case hod186 => (simp only [List.getElem?_toArray, List.getElem?_cons_succ, List.getElem?_cons_zero]; exact rfl)
                case hfd186 => kernel_rfl
                case hrd186 => kernel_rfl
                case hQd186 => exact fun _ _ _ h => h
                case hyd186 =>
                  refine Or.inl ⟨by rfl, ?_⟩
                  intro w
                  go_simp
                  (try with_reducible rfl)
                try simp only [Act.put, List.setIfInBounds_toArray, List.set_cons_zero, List.set_cons_succ]
                refine wpAny_take (i := 4) (oi := ?oid187) (v := ?vd187) ?hod187 (by kernel_rfl) ?hfd187 ?hrd187 ?hQd187 ?hyd187 ?restd187
                case hod187 => (simp only [List.getElem?_toArray, List.getElem?_cons_succ, List.getElem?_cons_zero]; exact rfl)
                case hfd187 => kernel_rfl
                case hrd187 => kernel_rfl
                case hQd187 => exact fun _ _ _ h => h
                case hyd187 =>
                  refine Or.inl ⟨by rfl, ?_⟩
                  intro w
                  go_simp
                  (try with_reducible rfl)
                try simp only [Act.put, List.setIfInBounds_toArray, List.set_cons_zero, List.set_cons_succ]
                refine wpAny_take (i := 5) (oi := ?oid188) (v := ?vd188) ?hod188 (by kernel_rfl) ?hfd188 ?hrd188 ?hQd188 ?hyd188 ?restd188
                case hod188 => (simp only [List.getElem?_toArray, List.getElem?_cons_succ, List.getElem?_cons_zero]; exact rfl)
                case hfd188 => kernel_rfl
                case hrd188 => kernel_rfl
                case hQd188 => exact fun _ _ _ h => h
                case hyd188 =>
                  refine Or.inl ⟨by rfl, ?_⟩
                  intro w
                  go_simp
                  (try with_reducible rfl)
                try simp only [Act.put, List.setIfInBounds_toArray, List.set_cons_zero, List.set_cons_succ]
                refine wpAny_take (i := 6) (oi := ?oid189) (v := ?vd189) ?hod189 (by kernel_rfl) ?hfd189 ?hrd189 ?hQd189 ?hyd189 ?restd189
                case hod189 => (simp only [List.getElem?_toArray, List.getElem?_cons_succ, List.getElem?_cons_zero]; exact rfl)
                case hfd189 => kernel_rfl
                case hrd189 => kernel_rfl
                case hQd189 => exact fun _ _ _ h => h
                case hyd189 =>
                  refine Or.inl ⟨by rfl, ?_⟩
                  intro w
                  go_simp
                  (try with_reducible rfl)
                try simp only [Act.put, List.setIfInBounds_toArray, List.set_cons_zero, List.set_cons_succ]
                refine wpAny_ready (rs := [3, 7]) (by kernel_rfl) (by simp) ?_
                refine AllReady.cons (o := ?od190) ?hod190 (fun K hK => ?kd190) ?md190
                case hod190 => (simp only [List.getElem?_toArray, List.getElem?_cons_succ, List.getElem?_cons_zero]; exact rfl)
                case kd190 =>
                  refine anyd_loadStr (by rfl) (.tmp 63) rfl b' (o' + k) _ (by rfl) HC'.out ?_
                  refine hK _ _ ?_
                  clear hK K
                  try simp only [Act.put, List.setIfInBounds_toArray, List.set_cons_zero, List.set_cons_succ]
                  refine wpAny_ready (rs := [7]) (by kernel_rfl) (by simp) ?_
                  refine AllReady.cons (o := ?od191) ?hod191 (fun K hK => ?kd191) ?md191
                  case hod191 => (simp only [List.getElem?_toArray, List.getElem?_cons_succ, List.getElem?_cons_zero]; exact rfl)
                  case kd191 =>
                    refine anyd_loadStr (by rfl) (.tmp 67) rfl b (o + i) _ (by rfl) HC1.out ?_
                    refine hK _ _ ?_
                    clear hK K
                    try simp only [Act.put, List.setIfInBounds_toArray, List.set_cons_zero, List.set_cons_succ]
                    refine wpAny_take (i := 8) (oi := ?oid192) (v := ?vd192) ?hod192 (by kernel_rfl) ?hfd192 ?hrd192 ?hQd192 ?hyd192 ?restd192
                    case hod192 => (simp only [List.getElem?_toArray, List.getElem?_cons_succ, List.getElem?_cons_zero]; exact rfl)
                    case hfd192 => kernel_rfl
                    case hrd192 => kernel_rfl
                    case hQd192 => exact fun _ _ _ h => h
                    case hyd192 =>
                      refine Or.inl ⟨by rfl, ?_⟩
                      intro w
                      go_simp
                      (try with_reducible rfl)
                    try simp only [Act.put, List.setIfInBounds_toArray, List.set_cons_zero, List.set_cons_succ]
                    exact wpAny_done (by kernel_rfl) (hEnd _ hf0) _
                  exact AllReady.nil
                refine AllReady.cons (o := ?od193) ?hod193 (fun K hK => ?kd193) ?md193
                case hod193 => (simp only [List.getElem?_toArray, List.getElem?_cons_succ, List.getElem?_cons_zero]; exact rfl)
                case kd193 =>
                  refine anyd_loadStr (by rfl) (.tmp 67) rfl b (o + i) _ (by rfl) HC1.out ?_
                  refine hK _ _ ?_
                  clear hK K
                  try simp only [Act.put, List.setIfInBounds_toArray, List.set_cons_zero, List.set_cons_succ]
                  refine wpAny_ready (rs := [3]) (by kernel_rfl) (by simp) ?_
                  refine AllReady.cons (o := ?od194) ?hod194 (fun K hK => ?kd194) ?md194
                  case hod194 => (simp only [List.getElem?_toArray, List.getElem?_cons_succ, List.getElem?_cons_zero]; exact rfl)
                  case kd194 =>
                    refine anyd_loadStr (by rfl) (.tmp 63) rfl b' (o' + k) _ (by rfl) HC'.out ?_
                    refine hK _ _ ?_
                    clear hK K
                    try simp only [Act.put, List.setIfInBounds_toArray, List.set_cons_zero, List.set_cons_succ]
                    refine wpAny_take (i := 8) (oi := ?oid195) (v := ?vd195) ?hod195 (by kernel_rfl) ?hfd195 ?hrd195 ?hQd195 ?hyd195 ?restd195
                    case hod195 => (simp only [List.getElem?_toArray, List.getElem?_cons_succ, List.getElem?_cons_zero]; exact rfl)
                    case hfd195 => kernel_rfl
                    case hrd195 => kernel_rfl
                    case hQd195 => exact fun _ _ _ h => h
                    case hyd195 =>
                      refine Or.inl ⟨by rfl, ?_⟩
                      intro w
                      go_simp
                      (try with_reducible rfl)
                    try simp only [Act.put, List.setIfInBounds_toArray, List.set_cons_zero, List.set_cons_succ]
                    exact wpAny_done (by kernel_rfl) (hEnd _ hf0) _
                  exact AllReady.nil
                exact AllReady.nil
              case cd183 =>
                rintro V3 rfl
                repeat go_step
                go_roundw
                case rel => exact ⟨k + 1, by omega, by go_num, by rw [HST.out], z + 1, by rw [HV2.out]; rfl⟩
                case measure => simp [intOf]; omega
            · have hq := neS he
              rw [if_neg (Ne.symm he)] at hst
              have HST := Lib.hid hst
              clear hst hy hc' hV2 he
              repeat go_step
              refine wp_region_any (by kernel_rfl) ?_
              try (change wpAny _ _ _ _ _ _ _ (World.drew _))
              refine wpAny_meet (b := ?ad196) (fun V => V = World.drew V2) ?cd196 ?rd196
              case rd196 =>
                intro hEnd
                have hf0 : World.drew V2 = World.drew V2 := rfl
                refine wpAny_take (i := 0) (oi := ?oid197) (v := ?vd197) ?hod197 (by kernel_rfl) ?hfd197 ?hrd197 ?hQd197 ?hyd197 ?restd197
                case hod197 => (simp only [List.getElem?_toArray, List.getElem?_cons_succ, List.getElem?_cons_zero]; exact rfl)
                case hfd197 => kernel_rfl
                case hrd197 => kernel_rfl
                case hQd197 => exact fun _ _ _ h => h
                case hyd197 =>
                  refine Or.inl ⟨by rfl, ?_⟩
                  intro w
                  go_simp
                  (try with_reducible rfl)
                try simp only [Act.put, List.setIfInBounds_toArray, List.set_cons_zero, List.set_cons_succ]
                refine wpAny_take (i := 1) (oi := ?oid198) (v := ?vd198) ?hod198 (by kernel_rfl) ?hfd198 ?hrd198 ?hQd198 ?hyd198 ?restd198
                case hod198 => (simp only [List.getElem?_toArray, List.getElem?_cons_succ, List.getElem?_cons_zero]; exact rfl)
                case hfd198 => kernel_rfl
                case hrd198 => kernel_rfl
                case hQd198 => exact fun _ _ _ h => h
                case hyd198 =>
                  refine Or.inl ⟨by rfl, ?_⟩
                  intro w
                  go_simp
                  (try with_reducible rfl)
                try simp only [Act.put, List.setIfInBounds_toArray, List.set_cons_zero, List.set_cons_succ]
                refine wpAny_take (i := 2) (oi := ?oid199) (v := ?vd199) ?hod199 (by kernel_rfl) ?hfd199 ?hrd199 ?hQd199 ?hyd199 ?restd199
                case hod199 => (simp only [List.getElem?_toArray, List.getElem?_cons_succ, List.getElem?_cons_zero]; exact rfl)
                case hfd199 => kernel_rfl
                case hrd199 => kernel_rfl
                case hQd199 => exact fun _ _ _ h => h
                case hyd199 =>
                  refine Or.inl ⟨by rfl, ?_⟩
                  intro w
                  go_simp
                  (try with_reducible rfl)
                try simp only [Act.put, List.setIfInBounds_toArray, List.set_cons_zero, List.set_cons_succ]
                refine wpAny_take (i := 4) (oi := ?oid200) (v := ?vd200) ?hod200 (by kernel_rfl) ?hfd200 ?hrd200 ?hQd200 ?hyd200 ?restd200
                case hod200 => (simp only [List.getElem?_toArray, List.getElem?_cons_succ, List.getElem?_cons_zero]; exact rfl)
                case hfd200 => kernel_rfl
                case hrd200 => kernel_rfl
                case hQd200 => exact fun _ _ _ h => h
                case hyd200 =>
                  refine Or.inl ⟨by rfl, ?_⟩
                  intro w
                  go_simp
                  (try with_reducible rfl)
                try simp only [Act.put, List.setIfInBounds_toArray, List.set_cons_zero, List.set_cons_succ]
                refine wpAny_take (i := 5) (oi := ?oid201) (v := ?vd201) ?hod201 (by kernel_rfl) ?hfd201 ?hrd201 ?hQd201 ?hyd201 ?restd201
                case hod201 => (simp only [List.getElem?_toArray, List.getElem?_cons_succ, List.getElem?_cons_zero]; exact rfl)
                case hfd201 => kernel_rfl
                case hrd201 => kernel_rfl
                case hQd201 => exact fun _ _ _ h => h
                case hyd201 =>
                  refine Or.inl ⟨by rfl, ?_⟩
                  intro w
                  go_simp
                  (try with_reducible rfl)
                try simp only [Act.put, List.setIfInBounds_toArray, List.set_cons_zero, List.set_cons_succ]
                refine wpAny_take (i := 6) (oi := ?oid202) (v := ?vd202) ?hod202 (by kernel_rfl) ?hfd202 ?hrd202 ?hQd202 ?hyd202 ?restd202
                case hod202 => (simp only [List.getElem?_toArray, List.getElem?_cons_succ, List.getElem?_cons_zero]; exact rfl)
                case hfd202 => kernel_rfl
                case hrd202 => kernel_rfl
                case hQd202 => exact fun _ _ _ h => h
                case hyd202 =>
                  refine Or.inl ⟨by rfl, ?_⟩
                  intro w
                  go_simp
                  (try with_reducible rfl)
                try simp only [Act.put, List.setIfInBounds_toArray, List.set_cons_zero, List.set_cons_succ]
                refine wpAny_ready (rs := [3, 7]) (by kernel_rfl) (by simp) ?_
                refine AllReady.cons (o := ?od203) ?hod203 (fun K hK => ?kd203) ?md203
                case hod203 => (simp only [List.getElem?_toArray, List.getElem?_cons_succ, List.getElem?_cons_zero]; exact rfl)
                case kd203 =>
                  refine anyd_loadStr (by rfl) (.tmp 63) rfl b' (o' + k) _ (by rfl) HC'.out ?_
                  refine hK _ _ ?_
                  clear hK K
                  try simp only [Act.put, List.setIfInBounds_toArray, List.set_cons_zero, List.set_cons_succ]
                  refine wpAny_ready (rs := [7]) (by kernel_rfl) (by simp) ?_
                  refine AllReady.cons (o := ?od204) ?hod204 (fun K hK => ?kd204) ?md204
                  case hod204 => (simp only [List.getElem?_toArray, List.getElem?_cons_succ, List.getElem?_cons_zero]; exact rfl)
                  case kd204 =>
                    refine anyd_loadStr (by rfl) (.tmp 67) rfl b (o + i) _ (by rfl) HC1.out ?_
                    refine hK _ _ ?_
                    clear hK K
                    try simp only [Act.put, List.setIfInBounds_toArray, List.set_cons_zero, List.set_cons_succ]
                    refine wpAny_take (i := 8) (oi := ?oid205) (v := ?vd205) ?hod205 (by kernel_rfl) ?hfd205 ?hrd205 ?hQd205 ?hyd205 ?restd205
                    case hod205 => (simp only [List.getElem?_toArray, List.getElem?_cons_succ, List.getElem?_cons_zero]; exact rfl)
                    case hfd205 => kernel_rfl
                    case hrd205 => kernel_rfl
                    case hQd205 => exact fun _ _ _ h => h
                    case hyd205 =>
                      refine Or.inl ⟨by rfl, ?_⟩
                      intro w
                      go_simp
                      (try with_reducible rfl)
                    try simp only [Act.put, List.setIfInBounds_toArray, List.set_cons_zero, List.set_cons_succ]
                    exact wpAny_done (by kernel_rfl) (hEnd _ hf0) _
                  exact AllReady.nil
                refine AllReady.cons (o := ?od206) ?hod206 (fun K hK => ?kd206) ?md206
                case hod206 => (simp only [List.getElem?_toArray, List.getElem?_cons_succ, List.getElem?_cons_zero]; exact rfl)
                case kd206 =>
                  refine anyd_loadStr (by rfl) (.tmp 67) rfl b (o + i) _ (by rfl) HC1.out ?_
                  refine hK _ _ ?_
                  clear hK K
                  try simp only [Act.put, List.setIfInBounds_toArray, List.set_cons_zero, List.set_cons_succ]
                  refine wpAny_ready (rs := [3]) (by kernel_rfl) (by simp) ?_
                  refine AllReady.cons (o := ?od207) ?hod207 (fun K hK => ?kd207) ?md207
                  case hod207 => (simp only [List.getElem?_toArray, List.getElem?_cons_succ, List.getElem?_cons_zero]; exact rfl)
                  case kd207 =>
                    refine anyd_loadStr (by rfl) (.tmp 63) rfl b' (o' + k) _ (by rfl) HC'.out ?_
                    refine hK _ _ ?_
                    clear hK K
                    try simp only [Act.put, List.setIfInBounds_toArray, List.set_cons_zero, List.set_cons_succ]
                    refine wpAny_take (i := 8) (oi := ?oid208) (v := ?vd208) ?hod208 (by kernel_rfl) ?hfd208 ?hrd208 ?hQd208 ?hyd208 ?restd208
                    case hod208 => (simp only [List.getElem?_toArray, List.getElem?_cons_succ, List.getElem?_cons_zero]; exact rfl)
                    case hfd208 => kernel_rfl
                    case hrd208 => kernel_rfl
                    case hQd208 => exact fun _ _ _ h => h
                    case hyd208 =>
                      refine Or.inl ⟨by rfl, ?_⟩
                      intro w
                      go_simp
                      (try with_reducible rfl)
                    try simp only [Act.put, List.setIfInBounds_toArray, List.set_cons_zero, List.set_cons_succ]
                    exact wpAny_done (by kernel_rfl) (hEnd _ hf0) _
                  exact AllReady.nil
                exact AllReady.nil
              case cd196 =>
                rintro V3 rfl
                repeat go_step
                go_roundw
                case rel => exact ⟨k + 1, by omega, by go_num, by rw [HST.out], z + 1, by rw [HV2.out]; rfl⟩
                case measure => simp [intOf]; omega
          · obtain rfl : k = acc.length := by omega
            rw [List.take_length]
            obtain ⟨V, hV⟩ : ∃ V, V = V0.drewN z := ⟨_, rfl⟩
            have hbV : Below V0.heap.size V0 V := by rw [hV]; exact belowDrews (Below.refl _ _) z
            have htbV := htb1.later hbV
            have howV : OwS V w.heap.size Ao co acc.length acc := by rw [hV]; exact HHO1.out
            have hbwV : Below w.heap.size w V := by rw [hV]; exact belowDrews hbw1 z
            have hcV : V.cell? ⟨b, o + i, none⟩ = some (sv s) := by rw [hV]; exact hc1
            rw [← hV]
            clear hV hbV htb1 hbw1 hc1 HHO1 HRN hlk hk
            by_cases hneg : findZ acc s < 0
            · have hd := HNUM.out
              have ha := HACC.out
              rw [if_pos hneg] at hd ha
              subst ha
              have hnn : num = acc.length := by omega
              subst hnn
              have HO := Lib.hid howV
              have hbz := hbwV.size
              clear hd HNUM HACC howV
              repeat (first
                | (at_builtin; refine appS _ rfl (.tmp 75) (.tmp 80) rfl w.heap.size Ao co acc.length acc rfl (World.ownsRow.alloc HO.out _) (V.heap.size + 1) (some ⟨V.heap.size, 0, none⟩) 1 1 [s] rfl (rdS1 V s) (by omega) (by simp; omega) ?_
                   intro A1' c1' w4 ho4 hg4 hk4)
                | go_skip | go_guarded | go_step)
              have hT : Turn (fun k => (Value.slice Ao acc.length co).ownBlock = some k) V w4 := ((Turn.refl _ V).alloc _).trans (Turn.ofGrown hg4 (fun k hk => hk))
              have htb4 := htbV.turn hT (fun k hk => HFW1.out k hk)
              have hbw4 := hbwV.trans (hT.below (fun k _ hk => (World.ownsRow.lt HO.out k hk).1) hbwV.size)
              have hFw4 : ∀ k, F1 k → (Value.slice A1' (acc.length + 1) c1').ownBlock ≠ some k := fun k hk e => by
                rcases hk4 with h | h
                · rw [h] at e
                  exact HFW1.out k hk e
                · rw [h] at e
                  have := htbV.lt k hk
                  simp at e
                  omega
              have hq4 : OwS w4 w.heap.size A1' c1' (acc ++ [s]).length (acc ++ [s]) := by simpa [OwS] using ho4
              have hf4 : ∀ k, F1 k → (Value.slice A1' (acc ++ [s]).length c1').ownBlock ≠ some k := by simpa using hFw4
              have HQ4 := Lib.hid hq4
              have HF4 := Lib.hid hf4
              clear hq4 hf4 hFw4 ho4 hg4 hk4 hT htbV hbwV hcV HO
              go_roundw
              case rel => exact ⟨i + 1, F1, acc ++ [s], A1', c1', by omega, by go_num, by simp, HGD1.out, htb4, HX1.out, HQ4.out, HF4.out, hbw4⟩
              case measure => simp [intOf]; omega
            · have hd := HNUM.out
              have ha := HACC.out
              rw [if_neg hneg] at hd ha
              replace ha := ha.symm
              subst ha
              rw [← hd] at hneg ⊢
              have HQ := Lib.hid howV
              clear hd HNUM HACC howV hcV
              repeat (first | go_skip | go_guarded | go_step)
              go_roundw
              case rel => exact ⟨i + 1, F1, acc, Ao, co, by omega, by go_num, rfl, HGD1.out, htbV, HX1.out, HQ.out, HFW1.out, hbwV⟩
              case measure => simp [intOf]; omega
    · obtain rfl : n0 = i := by omega
      rename World => W1
      have hal := hgd.len
      have HG := Lib.hid (show Good 4096 acc from hgd.mono (by omega))
      have hof := ofL_good acc [] (by simpa using HG.out)
      rw [List.nil_append] at hof
      have HOF := Lib.hid hof
      have HMY := Lib.hid (show ∀ s ∈ acc, s.size ≤ 32 from fun s hs => by
        have h1 := HG.out.may s hs
        unfold mayB at h1
        simp only [Bool.and_eq_true, decide_eq_true_eq] at h1
        omega)
      have hrn : Rd W1 W1.heap.size 1 Ao acc.length (acc.map sv) := Rd.ofOwn how
      have hownlt : ∀ k, (Value.slice Ao acc.length co).ownBlock = some k → w.heap.size ≤ k ∧ k < W1.heap.size := fun k hk => World.ownsRow.lt how k hk
      have hFlt := htb.lt
      clear hof hgd hlt hi
      repeat go_step
      refine (tOf hmay Ao acc.length co acc W1 hrn (by omega) (fun s hs => by have := HMY.out s hs; omega)).mono ?_
      rintro e W2 ⟨hb2, hor⟩
      rw [HOF.out] at hor
      rcases hor with ⟨_, g2, F2, rfl, htu, hF2⟩ | ⟨h, _⟩
      · dsimp only at htu
        have htb2 := htb.later hb2
        have how2 := (Turn.ofBelow (G := fun _ => False) hb2).own how (fun _ _ h => h)
        have hbw2 := hbw.trans (hb2.mono hbw.size)
        have hdis : ∀ k, F k → ¬ F2 k := fun k h1 h2 => by
          have := hFlt k h1
          have := hF2 k h2
          omega
        have HF2W := Lib.hid (show ∀ k, F2 k → w.heap.size ≤ k from fun k h => Nat.le_trans hbw.size (hF2 k h))
        have HX := Lib.hid hX
        have HFW := Lib.hid hFw
        have HDI := Lib.hid hdis
        have HOW2 := Lib.hid how2
        clear htb how hbw hrn hownlt hFlt hF2 hX hFw hdis how2 hb2
        dsimp only
        repeat (first | go_skip | go_guarded | go_step)
        refine (tLen g2 F2 acc W2 htu).mono ?_
        rintro e w3 ⟨rfl, rfl⟩
        dsimp only
        repeat (first | go_skip | go_guarded | go_step)
        refine (tLen g F acc W2 htb2).mono ?_
        rintro e w3 ⟨rfl, rfl⟩
        dsimp only
        repeat (first | go_skip | go_guarded | go_step)
        go_loopw [14] (fun p wr => ∃ (i : Nat) (F : Nat → Prop), i ≤ n1 ∧ p = .int .i64 (i : Int) ∧ Tb wr g F acc ∧ Tb wr g2 F2 acc ∧ OwS wr w.heap.size Ao co acc.length acc ∧ (∀ k, F k → w.heap.size ≤ k) ∧ (∀ k, F k → (Value.slice Ao acc.length co).ownBlock ≠ some k) ∧ (∀ k, F k → ¬ F2 k) ∧ Below w.heap.size w wr)
          (fun p _ => n1 - (intOf p).toNat)
        case atStart => exact ⟨0, F, by omega, rfl, htb2, htu, HOW2.out, HX.out, HFW.out, HDI.out, hbw2⟩
        case round =>
          clear htb2 htu hbw2 HX HFW HDI HOW2
          obtain ⟨i, F, hi, rfl, htb, htu, how, hX, hFw, hdis, hbw⟩ := hrel
          by_cases hgo : i < n1 ∧ 0 < acc.length
          · obtain ⟨hlt, hpos⟩ := hgo
            have hci : (i : Int) < (n1 : Int) := by omega
            have hcp : (0 : Int) < (acc.length : Int) := by omega
            have hlag : ag.length = n1 := by simpa using H1.out.len1
            obtain ⟨b, o, u, hA, hbb, hu, hc⟩ := (H1.out.below hbw).at1 hlt
            subst hA
            have hxa : ag[i]? = some (ag[i]'(by omega)) := List.getElem?_eq_getElem _
            generalize ag[i]'(by omega) = x at hxa
            rw [List.getElem?_map, hxa] at hu
            simp only [Option.map_some, Option.some.injEq] at hu
            subst hu
            have hc2 : wr.cell? ⟨b, o + i, none⟩ = some (.int .u8 (x.toNat : Int)) := hc
            have hx8 := u8_lt x
            obtain ⟨k, hk⟩ : ∃ k, k = x.toNat % acc.length := ⟨_, rfl⟩
            have hkl : k < acc.length := by rw [hk]; exact Nat.mod_lt _ hpos
            have e1 : (x.toNat : Int).tmod (acc.length : Int) = (k : Int) := by rw [Int.tmod_eq_emod_of_nonneg (by omega), hk]; simp
            have e2 : (x.toNat : Int) % (acc.length : Int) = (k : Int) := by rw [hk]; simp
            have hckl : (k : Int) < (acc.length : Int) := by omega
            obtain ⟨b', o', s, hA', hbb', hs, hcs⟩ := rdS_at (Rd.ofOwn how) hkl
            subst hA'
            have hfo : findO acc s = some k := findO_some hs fun j y hj hy e => by
              subst e
              exact nodup_ne HG.out.nodup hj hs hy rfl
            have hsm := HMY.out s (List.mem_of_getElem? hs)
            have hpl := putL_old (HG.out.may s (List.mem_of_getElem? hs)) hfo
            have HPL := Lib.hid hpl
            have HX := Lib.hid hX
            have HFW := Lib.hid hFw
            have HDI := Lib.hid hdis
            have HHO := Lib.hid how
            clear hk hxa hc hs hfo hpl hX hFw hdis how hlag
            repeat (first | go_skip | go_guarded | go_step)
            refine (tPut g F acc s wr htb (by omega) (by omega) (fun W => hmay s W (by omega))).mono ?_
            rintro e w1 ⟨rfl, F1, htb1, ht1, hF1⟩
            rw [HPL.out] at htb1 ⊢
            have hbw1 : Below w.heap.size w w1 := hbw.trans (ht1.below (fun k _ hk => HX.out k hk) hbw.size)
            have HHO1 := Lib.hid (ht1.own HHO.out (fun k hk hF => HFW.out k hF hk))
            have htu1 := htu.turn ht1 (fun k h2 h1 => HDI.out k h1 h2)
            have HX1 := Lib.hid (show ∀ k, F1 k → w.heap.size ≤ k from fun k hk => by
              rcases hF1 k hk with h | h
              · exact HX.out k h
              · exact Nat.le_trans hbw.size h)
            have HFW1 := Lib.hid (show ∀ k, F1 k → (Value.slice (some ⟨b', o', none⟩) acc.length co).ownBlock ≠ some k from fun k hk e => by
              rcases hF1 k hk with h | h
              · exact HFW.out k h e
              · have := (World.ownsRow.lt HHO.out k e).2
                omega)
            have HDI1 := Lib.hid (show ∀ k, F1 k → ¬ F2 k from fun k hk h2 => by
              rcases hF1 k hk with h | h
              · exact HDI.out k h h2
              · have := htu.lt k h2
                omega)
            clear htb hbw ht1 hF1 htu HX HFW HDI HHO HPL hc2 hcs
            dsimp only at htb1 ⊢
            repeat (first | go_skip | go_guarded | go_step)
            go_roundw
            case rel => exact ⟨i + 1, F1, by omega, by go_num, htb1, htu1, HHO1.out, HX1.out, HFW1.out, HDI1.out, hbw1⟩
            case measure => simp [intOf]; omega
          · rename World => W3
            have HO3 := Lib.hid how
            have hbw3 := hbw
            clear hX hFw hdis how hbw
            by_cases hlt : i < n1
            · have h0 : acc.length = 0 := by omega
              have hci : decide ((i : Int) < (n1 : Int)) = true := by simp; omega
              have hcp : decide ((0 : Int) < (acc.length : Int)) = false := by rw [h0]; rfl
              clear hgo
              repeat (first | go_skip | go_guarded | go_step)
              refine (tList g F acc W3 htb (by omega)).mono ?_
              rintro e W4 ⟨Al, cl, rfl, hol, hb4⟩
              have hbw4 := hbw3.trans (hb4.mono hbw3.size)
              have htu4 := htu.later hb4
              have hrl4 : Rd W4 W4.heap.size 1 Al acc.length (acc.map sv) := Rd.ofOwn hol
              have hrn4 : Rd W4 W4.heap.size 1 Ao acc.length (acc.map sv) := Rd.ofOwn ((Turn.ofBelow (G := fun _ => False) hb4).own HO3.out (fun _ _ h => h))
              clear htb htu hb4 hol
              dsimp only
              repeat (first | go_skip | go_guarded | go_step)
              refine (tList g2 F2 acc W4 htu4 (by omega)).mono ?_
              rintro e W5 ⟨Am, cm, rfl, hom, hb5⟩
              have hbw5 := hbw4.trans (hb5.mono hbw4.size)
              have htu5 := htu4.later hb5
              have HRL := Lib.hid ((hrl4.below hb5).more hb5.size)
              have HRN := Lib.hid ((hrn4.below hb5).more hb5.size)
              have HRM := Lib.hid (show Rd W5 W5.heap.size 1 Am acc.length (acc.map sv) from Rd.ofOwn hom)
              clear hb5 hom hrl4 hrn4 htu4 hbw4 hbw3
              dsimp only
              repeat (first | go_skip | go_guarded | go_step)
              go_loopw [20] (fun p wr => ∃ (j : Nat), j ≤ acc.length ∧ p = .int .i64 (j : Int) ∧ ∃ z, wr = W5.drewN z)
                (fun p _ => acc.length - (intOf p).toNat)
              case atStart => exact ⟨0, by omega, rfl, 0, rfl⟩
              case round =>
                obtain ⟨j, hj, rfl, z, rfl⟩ := hrel
                by_cases hlj : j < acc.length
                · omega
                · obtain rfl : j = acc.length := by omega
                  have hbV : Below w.heap.size w (W5.drewN z) := belowDrews hbw5 z
                  generalize W5.drewN z = V at *
                  go_wp2_with (go_at_call 9; refine (works_any hmay _).mono ?_; rintro e w7 ⟨rfl, hb7⟩)
                  go_ret
                  exact ⟨rfl, hbV.trans (hb7.mono hbV.size)⟩
            · have hci : decide ((i : Int) < (n1 : Int)) = false := by simp; omega
              clear hgo
              repeat (first | go_skip | go_guarded | go_step)
              refine (tList g F acc W3 htb (by omega)).mono ?_
              rintro e W4 ⟨Al, cl, rfl, hol, hb4⟩
              have hbw4 := hbw3.trans (hb4.mono hbw3.size)
              have htu4 := htu.later hb4
              have hrl4 : Rd W4 W4.heap.size 1 Al acc.length (acc.map sv) := Rd.ofOwn hol
              have hrn4 : Rd W4 W4.heap.size 1 Ao acc.length (acc.map sv) := Rd.ofOwn ((Turn.ofBelow (G := fun _ => False) hb4).own HO3.out (fun _ _ h => h))
              clear htb htu hb4 hol
              dsimp only
              repeat (first | go_skip | go_guarded | go_step)
              refine (tList g2 F2 acc W4 htu4 (by omega)).mono ?_
              rintro e W5 ⟨Am, cm, rfl, hom, hb5⟩
              have hbw5 := hbw4.trans (hb5.mono hbw4.size)
              have htu5 := htu4.later hb5
              have HRL := Lib.hid ((hrl4.below hb5).more hb5.size)
              have HRN := Lib.hid ((hrn4.below hb5).more hb5.size)
              have HRM := Lib.hid (show Rd W5 W5.heap.size 1 Am acc.length (acc.map sv) from Rd.ofOwn hom)
              clear hb5 hom hrl4 hrn4 htu4 hbw4 hbw3
              dsimp only
              repeat (first | go_skip | go_guarded | go_step)
              go_loopw [20] (fun p wr => ∃ (j : Nat), j ≤ acc.length ∧ p = .int .i64 (j : Int) ∧ ∃ z, wr = W5.drewN z)
                (fun p _ => acc.length - (intOf p).toNat)
              case atStart => exact ⟨0, by omega, rfl, 0, rfl⟩
              case round =>
                obtain ⟨j, hj, rfl, z, rfl⟩ := hrel
                by_cases hlj : j < acc.length
                · have hcj : (j : Int) < (acc.length : Int) := by omega
                  obtain ⟨V2, hV2⟩ : ∃ V, V = W5.drewN z := ⟨_, rfl⟩
                  have HV2 := Lib.hid hV2
                  have hbV : Below W5.heap.size W5 V2 := by rw [hV2]; exact belowDrews (Below.refl _ _) z
                  have htuV := htu5.later hbV
                  obtain ⟨bl, ol, s, hAl, hbl, hs, hcl⟩ := rdS_at (HRL.out.below hbV) hlj
                  obtain ⟨bn, on, s1, hAn, hbn, hs1, hcn⟩ := rdS_at (HRN.out.below hbV) hlj
                  obtain ⟨bm, om, s2, hAm, hbm, hs2, hcm⟩ := rdS_at (HRM.out.below hbV) hlj
                  subst hAl hAn hAm
                  rw [hs] at hs1 hs2
                  cases hs1
                  cases hs2
                  have hgd : acc.getD j ⟨#[]⟩ = s := by rw [List.getD_eq_getElem?_getD, hs]; rfl
                  have HCL : Hid (V2.drew.cell? ⟨bl, ol + j, none⟩ = some (sv s)) := hcl
                  have HCN : Hid (V2.drew.cell? ⟨bn, on + j, none⟩ = some (sv s)) := hcn
                  have HCM : Hid (V2.drew.cell? ⟨bm, om + j, none⟩ = some (sv s)) := hcm
                  rw [← hV2]
                  clear hs hcl hcn hcm hV2 hbV
                  repeat (first | go_skip | go_guarded | go_step)
                  refine (tName g2 F2 acc j V2 htuV (by omega)).mono ?_
                  rintro e w6 ⟨rfl, rfl⟩
                  rw [hgd, decide_eq_true hlj]
                  clear htuV hgd
                  dsimp only
                  repeat (first | go_skip | go_guarded | go_step)
                  refine wp_region_any (by kernel_rfl) ?_
                  try (change wpAny _ _ _ _ _ _ _ (World.drew _))
                  refine wpAny_meet (b := ?ad92) (fun V => V = World.drew V2) ?cd92 ?rd92
                  case rd92 =>
                    intro hEnd
                    have hf0 : World.drew V2 = World.drew V2 := rfl
                    refine wpAny_take (i := 0) (oi := ?oid93) (v := ?vd93) ?hod93 (by kernel_rfl) ?hfd93 ?hrd93 ?hQd93 ?hyd93 ?restd93
                    case hod93 => (simp only [List.getElem?_toArray, List.getElem?_cons_succ, List.getElem?_cons_zero]; exact rfl)
                    case hfd93 => kernel_rfl
                    case hrd93 => kernel_rfl
                    case hQd93 => exact fun _ _ _ h => h
                    case hyd93 =>
                      refine Or.inl ⟨by rfl, ?_⟩
                      intro w
                      go_simp
                      (try with_reducible rfl)
                    try simp only [Act.put, List.setIfInBounds_toArray, List.set_cons_zero, List.set_cons_succ]
                    refine wpAny_take (i := 1) (oi := ?oid94) (v := ?vd94) ?hod94 (by kernel_rfl) ?hfd94 ?hrd94 ?hQd94 ?hyd94 ?restd94
                    case hod94 => (simp only [List.getElem?_toArray, List.getElem?_cons_succ, List.getElem?_cons_zero]; exact rfl)
                    case hfd94 => kernel_rfl
                    case hrd94 => kernel_rfl
                    case hQd94 => exact fun _ _ _ h => h
                    case hyd94 =>
                      refine Or.inl ⟨by rfl, ?_⟩
                      intro w
                      go_simp
                      (try with_reducible rfl)
                    try simp only [Act.put, List.setIfInBounds_toArray, List.set_cons_zero, List.set_cons_succ]
                    refine wpAny_take (i := 2) (oi := ?oid95) (v := ?vd95) ?hod95 (by kernel_rfl) ?hfd95 ?hrd95 ?hQd95 ?hyd95 ?restd95
                    case hod95 => (simp only [List.getElem?_toArray, List.getElem?_cons_succ, List.getElem?_cons_zero]; exact rfl)
                    case hfd95 => kernel_rfl
                    case hrd95 => kernel_rfl
                    case hQd95 => exact fun _ _ _ h => h
                    case hyd95 =>
                      refine Or.inl ⟨by rfl, ?_⟩
                      intro w
                      go_simp
                      (try with_reducible rfl)
                    try simp only [Act.put, List.setIfInBounds_toArray, List.set_cons_zero, List.set_cons_succ]
                    refine wpAny_take (i := 4) (oi := ?oid96) (v := ?vd96) ?hod96 (by kernel_rfl) ?hfd96 ?hrd96 ?hQd96 ?hyd96 ?restd96
                    case hod96 => (simp only [List.getElem?_toArray, List.getElem?_cons_succ, List.getElem?_cons_zero]; exact rfl)
                    case hfd96 => kernel_rfl
                    case hrd96 => kernel_rfl
                    case hQd96 => exact fun _ _ _ h => h
                    case hyd96 =>
                      refine Or.inl ⟨by rfl, ?_⟩
                      intro w
                      go_simp
                      (try with_reducible rfl)
                    try simp only [Act.put, List.setIfInBounds_toArray, List.set_cons_zero, List.set_cons_succ]
                    refine wpAny_take (i := 5) (oi := ?oid97) (v := ?vd97) ?hod97 (by kernel_rfl) ?hfd97 ?hrd97 ?hQd97 ?hyd97 ?restd97
                    case hod97 => (simp only [List.getElem?_toArray, List.getElem?_cons_succ, List.getElem?_cons_zero]; exact rfl)
                    case hfd97 => kernel_rfl
                    case hrd97 => kernel_rfl
                    case hQd97 => exact fun _ _ _ h => h
                    case hyd97 =>
                      refine Or.inl ⟨by rfl, ?_⟩
                      intro w
                      go_simp
                      (try with_reducible rfl)
                    try simp only [Act.put, List.setIfInBounds_toArray, List.set_cons_zero, List.set_cons_succ]
                    refine wpAny_take (i := 6) (oi := ?oid98) (v := ?vd98) ?hod98 (by kernel_rfl) ?hfd98 ?hrd98 ?hQd98 ?hyd98 ?restd98
                    case hod98 => (simp only [List.getElem?_toArray, List.getElem?_cons_succ, List.getElem?_cons_zero]; exact rfl)
                    case hfd98 => kernel_rfl
                    case hrd98 => kernel_rfl
                    case hQd98 => exact fun _ _ _ h => h
                    case hyd98 =>
                      refine Or.inl ⟨by rfl, ?_⟩
                      intro w
                      go_simp
                      (try with_reducible rfl)
                    try simp only [Act.put, List.setIfInBounds_toArray, List.set_cons_zero, List.set_cons_succ]
                    refine wpAny_ready (rs := [3, 7]) (by kernel_rfl) (by simp) ?_
                    refine AllReady.cons (o := ?od99) ?hod99 (fun K hK => ?kd99) ?md99
                    case hod99 => (simp only [List.getElem?_toArray, List.getElem?_cons_succ, List.getElem?_cons_zero]; exact rfl)
                    case kd99 =>
                      refine anyd_loadStr (by rfl) (.tmp 178) rfl bl (ol + j) _ (by rfl) HCL.out ?_
                      refine hK _ _ ?_
                      clear hK K
                      try simp only [Act.put, List.setIfInBounds_toArray, List.set_cons_zero, List.set_cons_succ]
                      refine wpAny_ready (rs := [7]) (by kernel_rfl) (by simp) ?_
                      refine AllReady.cons (o := ?od100) ?hod100 (fun K hK => ?kd100) ?md100
                      case hod100 => (simp only [List.getElem?_toArray, List.getElem?_cons_succ, List.getElem?_cons_zero]; exact rfl)
                      case kd100 =>
                        refine anyd_loadStr (by rfl) (.tmp 182) rfl bn (on + j) _ (by rfl) HCN.out ?_
                        refine hK _ _ ?_
                        clear hK K
                        try simp only [Act.put, List.setIfInBounds_toArray, List.set_cons_zero, List.set_cons_succ]
                        refine wpAny_take (i := 8) (oi := ?oid101) (v := ?vd101) ?hod101 (by kernel_rfl) ?hfd101 ?hrd101 ?hQd101 ?hyd101 ?restd101
                        case hod101 => (simp only [List.getElem?_toArray, List.getElem?_cons_succ, List.getElem?_cons_zero]; exact rfl)
                        case hfd101 => kernel_rfl
                        case hrd101 => kernel_rfl
                        case hQd101 => exact fun _ _ _ h => h
                        case hyd101 =>
                          refine Or.inl ⟨by rfl, ?_⟩
                          intro w
                          go_simp
                          (try with_reducible rfl)
                        try simp only [Act.put, List.setIfInBounds_toArray, List.set_cons_zero, List.set_cons_succ]
                        refine wpAny_take (i := 9) (oi := ?oid102) (v := ?vd102) ?hod102 (by kernel_rfl) ?hfd102 ?hrd102 ?hQd102 ?hyd102 ?restd102
                        case hod102 => (simp only [List.getElem?_toArray, List.getElem?_cons_succ, List.getElem?_cons_zero]; exact rfl)
                        case hfd102 => kernel_rfl
                        case hrd102 => kernel_rfl
                        case hQd102 => exact fun _ _ _ h => h
                        case hyd102 =>
                          refine Or.inl ⟨by rfl, ?_⟩
                          intro w
                          go_simp
                          (try with_reducible rfl)
                        try simp only [Act.put, List.setIfInBounds_toArray, List.set_cons_zero, List.set_cons_succ]
                        refine wpAny_take (i := 10) (oi := ?oid103) (v := ?vd103) ?hod103 (by kernel_rfl) ?hfd103 ?hrd103 ?hQd103 ?hyd103 ?restd103
                        case hod103 => (simp only [List.getElem?_toArray, List.getElem?_cons_succ, List.getElem?_cons_zero]; exact rfl)
                        case hfd103 => kernel_rfl
                        case hrd103 => kernel_rfl
                        case hQd103 => exact fun _ _ _ h => h
                        case hyd103 =>
                          refine Or.inl ⟨by rfl, ?_⟩
                          intro w
                          go_simp
                          (try with_reducible rfl)
                        try simp only [Act.put, List.setIfInBounds_toArray, List.set_cons_zero, List.set_cons_succ]
                        refine wpAny_take (i := 11) (oi := ?oid104) (v := ?vd104) ?hod104 (by kernel_rfl) ?hfd104 ?hrd104 ?hQd104 ?hyd104 ?restd104
                        case hod104 => (simp only [List.getElem?_toArray, List.getElem?_cons_succ, List.getElem?_cons_zero]; exact rfl)
                        case hfd104 => kernel_rfl
                        case hrd104 => kernel_rfl
                        case hQd104 => exact fun _ _ _ h => h
                        case hyd104 =>
                          refine Or.inl ⟨by rfl, ?_⟩
                          intro w
                          go_simp
                          (try with_reducible rfl)
                        try simp only [Act.put, List.setIfInBounds_toArray, List.set_cons_zero, List.set_cons_succ]
                        refine wpAny_take (i := 12) (oi := ?oid105) (v := ?vd105) ?hod105 (by kernel_rfl) ?hfd105 ?hrd105 ?hQd105 ?hyd105 ?restd105
                        case hod105 => (simp only [List.getElem?_toArray, List.getElem?_cons_succ, List.getElem?_cons_zero]; exact rfl)
                        case hfd105 => kernel_rfl
                        case hrd105 => kernel_rfl
                        case hQd105 => exact fun _ _ _ h => h
                        case hyd105 =>
                          refine Or.inl ⟨by rfl, ?_⟩
                          intro w
                          go_simp
                          (try with_reducible rfl)
                        try simp only [Act.put, List.setIfInBounds_toArray, List.set_cons_zero, List.set_cons_succ]
                        refine wpAny_take (i := 14) (oi := ?oid106) (v := ?vd106) ?hod106 (by kernel_rfl) ?hfd106 ?hrd106 ?hQd106 ?hyd106 ?restd106
                        case hod106 => (simp only [List.getElem?_toArray, List.getElem?_cons_succ, List.getElem?_cons_zero]; exact rfl)
                        case hfd106 => kernel_rfl
                        case hrd106 => kernel_rfl
                        case hQd106 => exact fun _ _ _ h => h
                        case hyd106 =>
                          refine Or.inl ⟨by rfl, ?_⟩
                          intro w
                          go_simp
                          (try with_reducible rfl)
                        try simp only [Act.put, List.setIfInBounds_toArray, List.set_cons_zero, List.set_cons_succ]
                        refine wpAny_take (i := 15) (oi := ?oid107) (v := ?vd107) ?hod107 (by kernel_rfl) ?hfd107 ?hrd107 ?hQd107 ?hyd107 ?restd107
                        case hod107 => (simp only [List.getElem?_toArray, List.getElem?_cons_succ, List.getElem?_cons_zero]; exact rfl)
                        case hfd107 => kernel_rfl
                        case hrd107 => kernel_rfl
                        case hQd107 => exact fun _ _ _ h => h
                        case hyd107 =>
                          refine Or.inl ⟨by rfl, ?_⟩
                          intro w
                          go_simp
                          (try with_reducible rfl)
                        try simp only [Act.put, List.setIfInBounds_toArray, List.set_cons_zero, List.set_cons_succ]
                        refine wpAny_take (i := 16) (oi := ?oid108) (v := ?vd108) ?hod108 (by kernel_rfl) ?hfd108 ?hrd108 ?hQd108 ?hyd108 ?restd108
                        case hod108 => (simp only [List.getElem?_toArray, List.getElem?_cons_succ, List.getElem?_cons_zero]; exact rfl)
                        case hfd108 => kernel_rfl
                        case hrd108 => kernel_rfl
                        case hQd108 => exact fun _ _ _ h => h
                        case hyd108 =>
                          refine Or.inl ⟨by rfl, ?_⟩
                          intro w
                          go_simp
                          (try with_reducible rfl)
                        try simp only [Act.put, List.setIfInBounds_toArray, List.set_cons_zero, List.set_cons_succ]
                        refine wpAny_ready (rs := [13, 17]) (by kernel_rfl) (by simp) ?_
                        refine AllReady.cons (o := ?od109) ?hod109 (fun K hK => ?kd109) ?md109
                        case hod109 => (simp only [List.getElem?_toArray, List.getElem?_cons_succ, List.getElem?_cons_zero]; exact rfl)
                        case kd109 =>
                          refine anyd_loadStr (by rfl) (.tmp 188) rfl bm (om + j) _ (by rfl) HCM.out ?_
                          refine hK _ _ ?_
                          clear hK K
                          try simp only [Act.put, List.setIfInBounds_toArray, List.set_cons_zero, List.set_cons_succ]
                          refine wpAny_ready (rs := [17]) (by kernel_rfl) (by simp) ?_
                          refine AllReady.cons (o := ?od110) ?hod110 (fun K hK => ?kd110) ?md110
                          case hod110 => (simp only [List.getElem?_toArray, List.getElem?_cons_succ, List.getElem?_cons_zero]; exact rfl)
                          case kd110 =>
                            refine anyd_loadStr (by rfl) (.tmp 192) rfl bn (on + j) _ (by rfl) HCN.out ?_
                            refine hK _ _ ?_
                            clear hK K
                            try simp only [Act.put, List.setIfInBounds_toArray, List.set_cons_zero, List.set_cons_succ]
                            refine wpAny_take (i := 18) (oi := ?oid111) (v := ?vd111) ?hod111 (by kernel_rfl) ?hfd111 ?hrd111 ?hQd111 ?hyd111 ?restd111
                            case hod111 => (simp only [List.getElem?_toArray, List.getElem?_cons_succ, List.getElem?_cons_zero]; exact rfl)
                            case hfd111 => kernel_rfl
                            case hrd111 => kernel_rfl
                            case hQd111 => exact fun _ _ _ h => h
                            case hyd111 =>
                              refine Or.inl ⟨by rfl, ?_⟩
                              intro w
                              go_simp
                              (try with_reducible rfl)
                            try simp only [Act.put, List.setIfInBounds_toArray, List.set_cons_zero, List.set_cons_succ]
                            refine wpAny_take (i := 19) (oi := ?oid112) (v := ?vd112) ?hod112 (by kernel_rfl) ?hfd112 ?hrd112 ?hQd112 ?hyd112 ?restd112
                            case hod112 => (simp only [List.getElem?_toArray, List.getElem?_cons_succ, List.getElem?_cons_zero]; exact rfl)
                            case hfd112 => kernel_rfl
                            case hrd112 => kernel_rfl
                            case hQd112 => exact fun _ _ _ h => h
                            case hyd112 =>
                              refine Or.inl ⟨by rfl, ?_⟩
                              intro w
                              go_simp
                              (try with_reducible rfl)
                            try simp only [Act.put, List.setIfInBounds_toArray, List.set_cons_zero, List.set_cons_succ]
                            refine wpAny_take (i := 20) (oi := ?oid113) (v := ?vd113) ?hod113 (by kernel_rfl) ?hfd113 ?hrd113 ?hQd113 ?hyd113 ?restd113
                            case hod113 => (simp only [List.getElem?_toArray, List.getElem?_cons_succ, List.getElem?_cons_zero]; exact rfl)
                            case hfd113 => kernel_rfl
                            case hrd113 => kernel_rfl
                            case hQd113 => exact fun _ _ _ h => h
                            case hyd113 =>
                              refine Or.inl ⟨by rfl, ?_⟩
                              intro w
                              go_simp
                              (try with_reducible rfl)
                            try simp only [Act.put, List.setIfInBounds_toArray, List.set_cons_zero, List.set_cons_succ]
                            refine wpAny_take (i := 21) (oi := ?oid114) (v := ?vd114) ?hod114 (by kernel_rfl) ?hfd114 ?hrd114 ?hQd114 ?hyd114 ?restd114
                            case hod114 => (simp only [List.getElem?_toArray, List.getElem?_cons_succ, List.getElem?_cons_zero]; exact rfl)
                            case hfd114 => kernel_rfl
                            case hrd114 => kernel_rfl
                            case hQd114 => exact fun _ _ _ h => h
                            case hyd114 =>
                              refine Or.inl ⟨by rfl, ?_⟩
                              intro w
                              go_simp
                              (try with_reducible rfl)
                            try simp only [Act.put, List.setIfInBounds_toArray, List.set_cons_zero, List.set_cons_succ]
                            refine wpAny_take (i := 22) (oi := ?oid115) (v := ?vd115) ?hod115 (by kernel_rfl) ?hfd115 ?hrd115 ?hQd115 ?hyd115 ?restd115
                            case hod115 => (simp only [List.getElem?_toArray, List.getElem?_cons_succ, List.getElem?_cons_zero]; exact rfl)
                            case hfd115 => kernel_rfl
                            case hrd115 => kernel_rfl
                            case hQd115 => exact fun _ _ _ h => h
                            case hyd115 =>
                              refine Or.inl ⟨by rfl, ?_⟩
                              intro w
                              go_simp
                              (try with_reducible rfl)
                            try simp only [Act.put, List.setIfInBounds_toArray, List.set_cons_zero, List.set_cons_succ]
                            refine wpAny_take (i := 23) (oi := ?oid116) (v := ?vd116) ?hod116 (by kernel_rfl) ?hfd116 ?hrd116 ?hQd116 ?hyd116 ?restd116
                            case hod116 => (simp only [List.getElem?_toArray, List.getElem?_cons_succ, List.getElem?_cons_zero]; exact rfl)
                            case hfd116 => kernel_rfl
                            case hrd116 => kernel_rfl
                            case hQd116 => exact fun _ _ _ h => h
                            case hyd116 =>
                              refine Or.inl ⟨by rfl, ?_⟩
                              intro w
                              go_simp
                              (try with_reducible rfl)
                            try simp only [Act.put, List.setIfInBounds_toArray, List.set_cons_zero, List.set_cons_succ]
                            refine wpAny_take (i := 24) (oi := ?oid117) (v := ?vd117) ?hod117 (by kernel_rfl) ?hfd117 ?hrd117 ?hQd117 ?hyd117 ?restd117
                            case hod117 => (simp only [List.getElem?_toArray, List.getElem?_cons_succ, List.getElem?_cons_zero]; exact rfl)
                            case hfd117 => kernel_rfl
                            case hrd117 => kernel_rfl
                            case hQd117 => exact fun _ _ _ h => h
                            case hyd117 =>
                              refine Or.inl ⟨by rfl, ?_⟩
                              intro w
                              go_simp
                              (try with_reducible rfl)
                            try simp only [Act.put, List.setIfInBounds_toArray, List.set_cons_zero, List.set_cons_succ]
                            refine wpAny_ready (rs := [25]) (by kernel_rfl) (by simp) ?_
                            refine AllReady.cons (o := ?od118) ?hod118 (fun K hK => ?kd118) ?md118
                            case hod118 => (simp only [List.getElem?_toArray, List.getElem?_cons_succ, List.getElem?_cons_zero]; exact rfl)
                            case kd118 =>
                              refine anyd_loadStr (by rfl) (.tmp 200) rfl bn (on + j) _ (by rfl) HCN.out ?_
                              refine hK _ _ ?_
                              clear hK K
                              try simp only [Act.put, List.setIfInBounds_toArray, List.set_cons_zero, List.set_cons_succ]
                              refine wpAny_take (i := 26) (oi := ?oid119) (v := ?vd119) ?hod119 (by kernel_rfl) ?hfd119 ?hrd119 ?hQd119 ?hyd119 ?restd119
                              case hod119 => (simp only [List.getElem?_toArray, List.getElem?_cons_succ, List.getElem?_cons_zero]; exact rfl)
                              case hfd119 => kernel_rfl
                              case hrd119 => kernel_rfl
                              case hQd119 => exact fun _ _ _ h => h
                              case hyd119 =>
                                refine Or.inl ⟨by rfl, ?_⟩
                                intro w
                                go_simp
                                (try with_reducible rfl)
                              try simp only [Act.put, List.setIfInBounds_toArray, List.set_cons_zero, List.set_cons_succ]
                              refine wpAny_take (i := 27) (oi := ?oid120) (v := ?vd120) ?hod120 (by kernel_rfl) ?hfd120 ?hrd120 ?hQd120 ?hyd120 ?restd120
                              case hod120 => (simp only [List.getElem?_toArray, List.getElem?_cons_succ, List.getElem?_cons_zero]; exact rfl)
                              case hfd120 => kernel_rfl
                              case hrd120 => kernel_rfl
                              case hQd120 => exact fun _ _ _ h => h
                              case hyd120 =>
                                refine Or.inl ⟨by rfl, ?_⟩
                                intro w
                                go_simp
                                (try with_reducible rfl)
                              try simp only [Act.put, List.setIfInBounds_toArray, List.set_cons_zero, List.set_cons_succ]
                              refine wpAny_take (i := 28) (oi := ?oid121) (v := ?vd121) ?hod121 (by kernel_rfl) ?hfd121 ?hrd121 ?hQd121 ?hyd121 ?restd121
                              case hod121 => (simp only [List.getElem?_toArray, List.getElem?_cons_succ, List.getElem?_cons_zero]; exact rfl)
                              case hfd121 => kernel_rfl
                              case hrd121 => kernel_rfl
                              case hQd121 => exact fun _ _ _ h => h
                              case hyd121 =>
                                refine Or.inl ⟨by rfl, ?_⟩
                                intro w
                                go_simp
                                (try with_reducible rfl)
                              try simp only [Act.put, List.setIfInBounds_toArray, List.set_cons_zero, List.set_cons_succ]
                              refine wpAny_take (i := 29) (oi := ?oid122) (v := ?vd122) ?hod122 (by kernel_rfl) ?hfd122 ?hrd122 ?hQd122 ?hyd122 ?restd122
                              case hod122 => (simp only [List.getElem?_toArray, List.getElem?_cons_succ, List.getElem?_cons_zero]; exact rfl)
                              case hfd122 => kernel_rfl
                              case hrd122 => kernel_rfl
                              case hQd122 => exact fun _ _ _ h => h
                              case hyd122 =>
                                refine Or.inl ⟨by rfl, ?_⟩
                                intro w
                                go_simp
                                (try with_reducible rfl)
                              try simp only [Act.put, List.setIfInBounds_toArray, List.set_cons_zero, List.set_cons_succ]
                              refine wpAny_take (i := 30) (oi := ?oid123) (v := ?vd123) ?hod123 (by kernel_rfl) ?hfd123 ?hrd123 ?hQd123 ?hyd123 ?restd123
                              case hod123 => (simp only [List.getElem?_toArray, List.getElem?_cons_succ, List.getElem?_cons_zero]; exact rfl)
                              case hfd123 => kernel_rfl
                              case hrd123 => kernel_rfl
                              case hQd123 => exact fun _ _ _ h => h
                              case hyd123 =>
                                refine Or.inl ⟨by rfl, ?_⟩
                                intro w
                                go_simp
                                (try with_reducible rfl)
                              try simp only [Act.put, List.setIfInBounds_toArray, List.set_cons_zero, List.set_cons_succ]
                              refine wpAny_take (i := 31) (oi := ?oid124) (v := ?vd124) ?hod124 (by kernel_rfl) ?hfd124 ?hrd124 ?hQd124 ?hyd124 ?restd124
                              case hod124 => (simp only [List.getElem?_toArray, List.getElem?_cons_succ, List.getElem?_cons_zero]; exact rfl)
                              case hfd124 => kernel_rfl
                              case hrd124 => kernel_rfl
                              case hQd124 => exact fun _ _ _ h => h
                              case hyd124 =>
                                refine Or.inl ⟨by rfl, ?_⟩
                                intro w
                                go_simp
                                (try with_reducible rfl)
                              try simp only [Act.put, List.setIfInBounds_toArray, List.set_cons_zero, List.set_cons_succ]
                              exact wpAny_done (by kernel_rfl) (hEnd _ hf0) _
                            exact AllReady.nil
                          exact AllReady.nil
                        refine AllReady.cons (o := ?od125) ?hod125 (fun K hK => ?kd125) ?md125
                        case hod125 => (simp only [List.getElem?_toArray, List.getElem?_cons_succ, List.getElem?_cons_zero]; exact rfl)
                        case kd125 =>
                          refine anyd_loadStr (by rfl) (.tmp 192) rfl bn (on + j) _ (by rfl) HCN.out ?_
                          refine hK _ _ ?_
                          clear hK K
                          try simp only [Act.put, List.setIfInBounds_toArray, List.set_cons_zero, List.set_cons_succ]
                          refine wpAny_ready (rs := [13]) (by kernel_rfl) (by simp) ?_
                          refine AllReady.cons (o := ?od126) ?hod126 (fun K hK => ?kd126) ?md126
                          case hod126 => (simp only [List.getElem?_toArray, List.getElem?_cons_succ, List.getElem?_cons_zero]; exact rfl)
                          case kd126 =>
                            refine anyd_loadStr (by rfl) (.tmp 188) rfl bm (om + j) _ (by rfl) HCM.out ?_
                            refine hK _ _ ?_
                            clear hK K
                            try simp only [Act.put, List.setIfInBounds_toArray, List.set_cons_zero, List.set_cons_succ]
                            refine wpAny_take (i := 18) (oi := ?oid127) (v := ?vd127) ?hod127 (by kernel_rfl) ?hfd127 ?hrd127 ?hQd127 ?hyd127 ?restd127
                            case hod127 => (simp only [List.getElem?_toArray, List.getElem?_cons_succ, List.getElem?_cons_zero]; exact rfl)
                            case hfd127 => kernel_rfl
                            case hrd127 => kernel_rfl
                            case hQd127 => exact fun _ _ _ h => h
                            case hyd127 =>
                              refine Or.inl ⟨by rfl, ?_⟩
                              intro w
                              go_simp
                              (try with_reducible rfl)
                            try simp only [Act.put, List.setIfInBounds_toArray, List.set_cons_zero, List.set_cons_succ]
                            refine wpAny_take (i := 19) (oi := ?oid128) (v := ?vd128) ?hod128 (by kernel_rfl) ?hfd128 ?hrd128 ?hQd128 ?hyd128 ?restd128
                            case hod128 => (simp only [List.getElem?_toArray, List.getElem?_cons_succ, List.getElem?_cons_zero]; exact rfl)
                            case hfd128 => kernel_rfl
                            case hrd128 => kernel_rfl
                            case hQd128 => exact fun _ _ _ h => h
                            case hyd128 =>
                              refine Or.inl ⟨by rfl, ?_⟩
                              intro w
                              go_simp
                              (try with_reducible rfl)
                            try simp only [Act.put, List.setIfInBounds_toArray, List.set_cons_zero, List.set_cons_succ]
                            refine wpAny_take (i := 20) (oi := ?oid129) (v := ?vd129) ?hod129 (by kernel_rfl) ?hfd129 ?hrd129 ?hQd129 ?hyd129 ?restd129
                            case hod129 => (simp only [List.getElem?_toArray, List.getElem?_cons_succ, List.getElem?_cons_zero]; exact rfl)
                            case hfd129 => kernel_rfl
                            case hrd129 => kernel_rfl
                            case hQd129 => exact fun _ _ _ h => h
                            case hyd129 =>
                              refine Or.inl ⟨by rfl, ?_⟩
                              intro w
                              go_simp
                              (try with_reducible rfl)
                            try simp only [Act.put, List.setIfInBounds_toArray, List.set_cons_zero, List.set_cons_succ]
                            refine wpAny_take (i := 21) (oi := ?oid130) (v := ?vd130) ?hod130 (by kernel_rfl) ?hfd130 ?hrd130 ?hQd130 ?hyd130 ?restd130
                            case hod130 => (simp only [List.getElem?_toArray, List.getElem?_cons_succ, List.getElem?_cons_zero]; exact rfl)
                            case hfd130 => kernel_rfl
                            case hrd130 => kernel_rfl
                            case hQd130 => exact fun _ _ _ h => h
                            case hyd130 =>
                              refine Or.inl ⟨by rfl, ?_⟩
                              intro w
                              go_simp
                              (try with_reducible rfl)
                            try simp only [Act.put, List.setIfInBounds_toArray, List.set_cons_zero, List.set_cons_succ]
                            refine wpAny_take (i := 22) (oi := ?oid131) (v := ?vd131) ?hod131 (by kernel_rfl) ?hfd131 ?hrd131 ?hQd131 ?hyd131 ?restd131
                            case hod131 => (simp only [List.getElem?_toArray, List.getElem?_cons_succ, List.getElem?_cons_zero]; exact rfl)
                            case hfd131 => kernel_rfl
                            case hrd131 => kernel_rfl
                            case hQd131 => exact fun _ _ _ h => h
                            case hyd131 =>
                              refine Or.inl ⟨by rfl, ?_⟩
                              intro w
                              go_simp
                              (try with_reducible rfl)
                            try simp only [Act.put, List.setIfInBounds_toArray, List.set_cons_zero, List.set_cons_succ]
                            refine wpAny_take (i := 23) (oi := ?oid132) (v := ?vd132) ?hod132 (by kernel_rfl) ?hfd132 ?hrd132 ?hQd132 ?hyd132 ?restd132
                            case hod132 => (simp only [List.getElem?_toArray, List.getElem?_cons_succ, List.getElem?_cons_zero]; exact rfl)
                            case hfd132 => kernel_rfl
                            case hrd132 => kernel_rfl
                            case hQd132 => exact fun _ _ _ h => h
                            case hyd132 =>
                              refine Or.inl ⟨by rfl, ?_⟩
                              intro w
                              go_simp
                              (try with_reducible rfl)
                            try simp only [Act.put, List.setIfInBounds_toArray, List.set_cons_zero, List.set_cons_succ]
                            refine wpAny_take (i := 24) (oi := ?oid133) (v := ?vd133) ?hod133 (by kernel_rfl) ?hfd133 ?hrd133 ?hQd133 ?hyd133 ?restd133
                            case hod133 => (simp only [List.getElem?_toArray, List.getElem?_cons_succ, List.getElem?_cons_zero]; exact rfl)
                            case hfd133 => kernel_rfl
                            case hrd133 => kernel_rfl
                            case hQd133 => exact fun _ _ _ h => h
                            case hyd133 =>
                              refine Or.inl ⟨by rfl, ?_⟩
                              intro w
                              go_simp
                              (try with_reducible rfl)
                            try simp only [Act.put, List.setIfInBounds_toArray, List.set_cons_zero, List.set_cons_succ]
                            refine wpAny_ready (rs := [25]) (by kernel_rfl) (by simp) ?_
                            refine AllReady.cons (o := ?od134) ?hod134 (fun K hK => ?kd134) ?md134
                            case hod134 => (simp only [List.getElem?_toArray, List.getElem?_cons_succ, List.getElem?_cons_zero]; exact rfl)
                            case kd134 =>
                              refine anyd_loadStr (by rfl) (.tmp 200) rfl bn (on + j) _ (by rfl) HCN.out ?_
                              refine hK _ _ ?_
                              clear hK K
                              try simp only [Act.put, List.setIfInBounds_toArray, List.set_cons_zero, List.set_cons_succ]
                              refine wpAny_take (i := 26) (oi := ?oid135) (v := ?vd135) ?hod135 (by kernel_rfl) ?hfd135 ?hrd135 ?hQd135 ?hyd135 ?restd135
                              case hod135 => (simp only [List.getElem?_toArray, List.getElem?_cons_succ, List.getElem?_cons_zero]; exact rfl)
                              case hfd135 => kernel_rfl
                              case hrd135 => kernel_rfl
                              case hQd135 => exact fun _ _ _ h => h
                              case hyd135 =>
                                refine Or.inl ⟨by rfl, ?_⟩
                                intro w
                                go_simp
                                (try with_reducible rfl)
                              try simp only [Act.put, List.setIfInBounds_toArray, List.set_cons_zero, List.set_cons_succ]
                              refine wpAny_take (i := 27) (oi := ?oid136) (v := ?vd136) ?hod136 (by kernel_rfl) ?hfd136 ?hrd136 ?hQd136 ?hyd136 ?restd136
                              case hod136 => (simp only [List.getElem?_toArray, List.getElem?_cons_succ, List.getElem?_cons_zero]; exact rfl)
                              case hfd136 => kernel_rfl
                              case hrd136 => kernel_rfl
                              case hQd136 => exact fun _ _ _ h => h
                              case hyd136 =>
                                refine Or.inl ⟨by rfl, ?_⟩
                                intro w
                                go_simp
                                (try with_reducible rfl)
                              try simp only [Act.put, List.setIfInBounds_toArray, List.set_cons_zero, List.set_cons_succ]
                              refine wpAny_take (i := 28) (oi := ?oid137) (v := ?vd137) ?hod137 (by kernel_rfl) ?hfd137 ?hrd137 ?hQd137 ?hyd137 ?restd137
                              case hod137 => (simp only [List.getElem?_toArray, List.getElem?_cons_succ, List.getElem?_cons_zero]; exact rfl)
                              case hfd137 => kernel_rfl
                              case hrd137 => kernel_rfl
                              case hQd137 => exact fun _ _ _ h => h
                              case hyd137 =>
                                refine Or.inl ⟨by rfl, ?_⟩
                                intro w
                                go_simp
                                (try with_reducible rfl)
                              try simp only [Act.put, List.setIfInBounds_toArray, List.set_cons_zero, List.set_cons_succ]
                              refine wpAny_take (i := 29) (oi := ?oid138) (v := ?vd138) ?hod138 (by kernel_rfl) ?hfd138 ?hrd138 ?hQd138 ?hyd138 ?restd138
                              case hod138 => (simp only [List.getElem?_toArray, List.getElem?_cons_succ, List.getElem?_cons_zero]; exact rfl)
                              case hfd138 => kernel_rfl
                              case hrd138 => kernel_rfl
                              case hQd138 => exact fun _ _ _ h => h
                              case hyd138 =>
                                refine Or.inl ⟨by rfl, ?_⟩
                                intro w
                                go_simp
                                (try with_reducible rfl)
                              try simp only [Act.put, List.setIfInBounds_toArray, List.set_cons_zero, List.set_cons_succ]
                              refine wpAny_take (i := 30) (oi := ?oid139) (v := ?vd139) ?hod139 (by kernel_rfl) ?hfd139 ?hrd139 ?hQd139 ?hyd139 ?restd139
                              case hod139 => (simp only [List.getElem?_toArray, List.getElem?_cons_succ, List.getElem?_cons_zero]; exact rfl)
                              case hfd139 => kernel_rfl
                              case hrd139 => kernel_rfl
                              case hQd139 => exact fun _ _ _ h => h
                              case hyd139 =>
                                refine Or.inl ⟨by rfl, ?_⟩
                                intro w
                                go_simp
                                (try with_reducible rfl)
                              try simp only [Act.put, List.setIfInBounds_toArray, List.set_cons_zero, List.set_cons_succ]
                              refine wpAny_take (i := 31) (oi := ?oid140) (v := ?vd140) ?hod140 (by kernel_rfl) ?hfd140 ?hrd140 ?hQd140 ?hyd140 ?restd140
                              case hod140 => (simp only [List.getElem?_toArray, List.getElem?_cons_succ, List.getElem?_cons_zero]; exact rfl)
                              case hfd140 => kernel_rfl
                              case hrd140 => kernel_rfl
                              case hQd140 => exact fun _ _ _ h => h
                              case hyd140 =>
                                refine Or.inl ⟨by rfl, ?_⟩
                                intro w
                                go_simp
                                (try with_reducible rfl)
                              try simp only [Act.put, List.setIfInBounds_toArray, List.set_cons_zero, List.set_cons_succ]
                              exact wpAny_done (by kernel_rfl) (hEnd _ hf0) _
                            exact AllReady.nil
                          exact AllReady.nil
                        exact AllReady.nil
                      exact AllReady.nil
                    refine AllReady.cons (o := ?od141) ?hod141 (fun K hK => ?kd141) ?md141
                    case hod141 => (simp only [List.getElem?_toArray, List.getElem?_cons_succ, List.getElem?_cons_zero]; exact rfl)
                    case kd141 =>
                      refine anyd_loadStr (by rfl) (.tmp 182) rfl bn (on + j) _ (by rfl) HCN.out ?_
                      refine hK _ _ ?_
                      clear hK K
                      try simp only [Act.put, List.setIfInBounds_toArray, List.set_cons_zero, List.set_cons_succ]
                      refine wpAny_ready (rs := [3]) (by kernel_rfl) (by simp) ?_
                      refine AllReady.cons (o := ?od142) ?hod142 (fun K hK => ?kd142) ?md142
                      case hod142 => (simp only [List.getElem?_toArray, List.getElem?_cons_succ, List.getElem?_cons_zero]; exact rfl)
                      case kd142 =>
                        refine anyd_loadStr (by rfl) (.tmp 178) rfl bl (ol + j) _ (by rfl) HCL.out ?_
                        refine hK _ _ ?_
                        clear hK K
                        try simp only [Act.put, List.setIfInBounds_toArray, List.set_cons_zero, List.set_cons_succ]
                        refine wpAny_take (i := 8) (oi := ?oid143) (v := ?vd143) ?hod143 (by kernel_rfl) ?hfd143 ?hrd143 ?hQd143 ?hyd143 ?restd143
                        case hod143 => (simp only [List.getElem?_toArray, List.getElem?_cons_succ, List.getElem?_cons_zero]; exact rfl)
                        case hfd143 => kernel_rfl
                        case hrd143 => kernel_rfl
                        case hQd143 => exact fun _ _ _ h => h
                        case hyd143 =>
                          refine Or.inl ⟨by rfl, ?_⟩
                          intro w
                          go_simp
                          (try with_reducible rfl)
                        try simp only [Act.put, List.setIfInBounds_toArray, List.set_cons_zero, List.set_cons_succ]
                        refine wpAny_take (i := 9) (oi := ?oid144) (v := ?vd144) ?hod144 (by kernel_rfl) ?hfd144 ?hrd144 ?hQd144 ?hyd144 ?restd144
                        case hod144 => (simp only [List.getElem?_toArray, List.getElem?_cons_succ, List.getElem?_cons_zero]; exact rfl)
                        case hfd144 => kernel_rfl
                        case hrd144 => kernel_rfl
                        case hQd144 => exact fun _ _ _ h => h
                        case hyd144 =>
                          refine Or.inl ⟨by rfl, ?_⟩
                          intro w
                          go_simp
                          (try with_reducible rfl)
                        try simp only [Act.put, List.setIfInBounds_toArray, List.set_cons_zero, List.set_cons_succ]
                        refine wpAny_take (i := 10) (oi := ?oid145) (v := ?vd145) ?hod145 (by kernel_rfl) ?hfd145 ?hrd145 ?hQd145 ?hyd145 ?restd145
                        case hod145 => (simp only [List.getElem?_toArray, List.getElem?_cons_succ, List.getElem?_cons_zero]; exact rfl)
                        case hfd145 => kernel_rfl
                        case hrd145 => kernel_rfl
                        case hQd145 => exact fun _ _ _ h => h
                        case hyd145 =>
                          refine Or.inl ⟨by rfl, ?_⟩
                          intro w
                          go_simp
                          (try with_reducible rfl)
                        try simp only [Act.put, List.setIfInBounds_toArray, List.set_cons_zero, List.set_cons_succ]
                        refine wpAny_take (i := 11) (oi := ?oid146) (v := ?vd146) ?hod146 (by kernel_rfl) ?hfd146 ?hrd146 ?hQd146 ?hyd146 ?restd146
                        case hod146 => (simp only [List.getElem?_toArray, List.getElem?_cons_succ, List.getElem?_cons_zero]; exact rfl)
                        case hfd146 => kernel_rfl
                        case hrd146 => kernel_rfl
                        case hQd146 => exact fun _ _ _ h => h
                        case hyd146 =>
                          refine Or.inl ⟨by rfl, ?_⟩
                          intro w
                          go_simp
                          (try with_reducible rfl)
                        try simp only [Act.put, List.setIfInBounds_toArray, List.set_cons_zero, List.set_cons_succ]
                        refine wpAny_take (i := 12) (oi := ?oid147) (v := ?vd147) ?hod147 (by kernel_rfl) ?hfd147 ?hrd147 ?hQd147 ?hyd147 ?restd147
                        case hod147 => (simp only [List.getElem?_toArray, List.getElem?_cons_succ, List.getElem?_cons_zero]; exact rfl)
                        case hfd147 => kernel_rfl
                        case hrd147 => kernel_rfl
                        case hQd147 => exact fun _ _ _ h => h
                        case hyd147 =>
                          refine Or.inl ⟨by rfl, ?_⟩
                          intro w
                          go_simp
                          (try with_reducible rfl)
                        try simp only [Act.put, List.setIfInBounds_toArray, List.set_cons_zero, List.set_cons_succ]
                        refine wpAny_take (i := 14) (oi := ?oid148) (v := ?vd148) ?hod148 (by kernel_rfl) ?hfd148 ?hrd148 ?hQd148 ?hyd148 ?restd148
                        case hod148 => (simp only [List.getElem?_toArray, List.getElem?_cons_succ, List.getElem?_cons_zero]; exact rfl)
                        case hfd148 => kernel_rfl
                        case hrd148 => kernel_rfl
                        case hQd148 => exact fun _ _ _ h => h
                        case hyd148 =>
                          refine Or.inl ⟨by rfl, ?_⟩
                          intro w
                          go_simp
                          (try with_reducible rfl)
                        try simp only [Act.put, List.setIfInBounds_toArray, List.set_cons_zero, List.set_cons_succ]
                        refine wpAny_take (i := 15) (oi := ?oid149) (v := ?vd149) ?hod149 (by kernel_rfl) ?hfd149 ?hrd149 ?hQd149 ?hyd149 ?restd149
                        case hod149 => (simp only [List.getElem?_toArray, List.getElem?_cons_succ, List.getElem?_cons_zero]; exact rfl)
                        case hfd149 => kernel_rfl
                        case hrd149 => kernel_rfl
                        case hQd149 => exact fun _ _ _ h => h
                        case hyd149 =>
                          refine Or.inl ⟨by rfl, ?_⟩
                          intro w
                          go_simp
                          (try with_reducible rfl)
                        try simp only [Act.put, List.setIfInBounds_toArray, List.set_cons_zero, List.set_cons_succ]
                        refine wpAny_take (i := 16) (oi := ?oid150) (v := ?vd150) ?hod150 (by kernel_rfl) ?hfd150 ?hrd150 ?hQd150 ?hyd150 ?restd150
                        case hod150 => (simp only [List.getElem?_toArray, List.getElem?_cons_succ, List.getElem?_cons_zero]; exact rfl)
                        case hfd150 => kernel_rfl
                        case hrd150 => kernel_rfl
                        case hQd150 => exact fun _ _ _ h => h
                        case hyd150 =>
                          refine Or.inl ⟨by rfl, ?_⟩
                          intro w
                          go_simp
                          (try with_reducible rfl)
                        try simp only [Act.put, List.setIfInBounds_toArray, List.set_cons_zero, List.set_cons_succ]
                        refine wpAny_ready (rs := [13, 17]) (by kernel_rfl) (by simp) ?_
                        refine AllReady.cons (o := ?od151) ?hod151 (fun K hK => ?kd151) ?md151
                        case hod151 => (simp only [List.getElem?_toArray, List.getElem?_cons_succ, List.getElem?_cons_zero]; exact rfl)
                        case kd151 =>
                          refine anyd_loadStr (by rfl) (.tmp 188) rfl bm (om + j) _ (by rfl) HCM.out ?_
                          refine hK _ _ ?_
                          clear hK K
                          try simp only [Act.put, List.setIfInBounds_toArray, List.set_cons_zero, List.set_cons_succ]
                          refine wpAny_ready (rs := [17]) (by kernel_rfl) (by simp) ?_
                          refine AllReady.cons (o := ?od152) ?hod152 (fun K hK => ?kd152) ?md152
                          case hod152 => (simp only [List.getElem?_toArray, List.getElem?_cons_succ, List.getElem?_cons_zero]; exact rfl)
                          case kd152 =>
                            refine anyd_loadStr (by rfl) (.tmp 192) rfl bn (on + j) _ (by rfl) HCN.out ?_
                            refine hK _ _ ?_
                            clear hK K
                            try simp only [Act.put, List.setIfInBounds_toArray, List.set_cons_zero, List.set_cons_succ]
                            refine wpAny_take (i := 18) (oi := ?oid153) (v := ?vd153) ?hod153 (by kernel_rfl) ?hfd153 ?hrd153 ?hQd153 ?hyd153 ?restd153
                            case hod153 => (simp only [List.getElem?_toArray, List.getElem?_cons_succ, List.getElem?_cons_zero]; exact rfl)
                            case hfd153 => kernel_rfl
                            case hrd153 => kernel_rfl
                            case hQd153 => exact fun _ _ _ h => h
                            case hyd153 =>
                              refine Or.inl ⟨by rfl, ?_⟩
                              intro w
                              go_simp
                              (try with_reducible rfl)
                            try simp only [Act.put, List.setIfInBounds_toArray, List.set_cons_zero, List.set_cons_succ]
                            refine wpAny_take (i := 19) (oi := ?oid154) (v := ?vd154) ?hod154 (by kernel_rfl) ?hfd154 ?hrd154 ?hQd154 ?hyd154 ?restd154
                            case hod154 => (simp only [List.getElem?_toArray, List.getElem?_cons_succ, List.getElem?_cons_zero]; exact rfl)
                            case hfd154 => kernel_rfl
                            case hrd154 => kernel_rfl
                            case hQd154 => exact fun _ _ _ h => h
                            case hyd154 =>
                              refine Or.inl ⟨by rfl, ?_⟩
                              intro w
                              go_simp
                              (try with_reducible rfl)
                            try simp only [Act.put, List.setIfInBounds_toArray, List.set_cons_zero, List.set_cons_succ]
                            refine wpAny_take (i := 20) (oi := ?oid155) (v := ?vd155) ?hod155 (by kernel_rfl) ?hfd155 ?hrd155 ?hQd155 ?hyd155 ?restd155
                            case hod155 => (simp only [List.getElem?_toArray, List.getElem?_cons_succ, List.getElem?_cons_zero]; exact rfl)
                            case hfd155 => kernel_rfl
                            case hrd155 => kernel_rfl
                            case hQd155 => exact fun _ _ _ h => h
                            case hyd155 =>
                              refine Or.inl ⟨by rfl, ?_⟩
                              intro w
                              go_simp
                              (try with_reducible rfl)
                            try simp only [Act.put, List.setIfInBounds_toArray, List.set_cons_zero, List.set_cons_succ]
                            refine wpAny_take (i := 21) (oi := ?oid156) (v := ?vd156) ?hod156 (by kernel_rfl) ?hfd156 ?hrd156 ?hQd156 ?hyd156 ?restd156
                            case hod156 => (simp only [List.getElem?_toArray, List.getElem?_cons_succ, List.getElem?_cons_zero]; exact rfl)
                            case hfd156 => kernel_rfl
                            case hrd156 => kernel_rfl
                            case hQd156 => exact fun _ _ _ h => h
                            case hyd156 =>
                              refine Or.inl ⟨by rfl, ?_⟩
                              intro w
                              go_simp
                              (try with_reducible rfl)
                            try simp only [Act.put, List.setIfInBounds_toArray, List.set_cons_zero, List.set_cons_succ]
                            refine wpAny_take (i := 22) (oi := ?oid157) (v := ?vd157) ?hod157 (by kernel_rfl) ?hfd157 ?hrd157 ?hQd157 ?hyd157 ?restd157
                            case hod157 => (simp only [List.getElem?_toArray, List.getElem?_cons_succ, List.getElem?_cons_zero]; exact rfl)
                            case hfd157 => kernel_rfl
                            case hrd157 => kernel_rfl
                            case hQd157 => exact fun _ _ _ h => h
                            case hyd157 =>
                              refine Or.inl ⟨by rfl, ?_⟩
                              intro w
                              go_simp
                              (try with_reducible rfl)
                            try simp only [Act.put, List.setIfInBounds_toArray, List.set_cons_zero, List.set_cons_succ]
                            refine wpAny_take (i := 23) (oi := ?oid158) (v := ?vd158) ?hod158 (by kernel_rfl) ?hfd158 ?hrd158 ?hQd158 ?hyd158 ?restd158
                            case hod158 => (simp only [List.getElem?_toArray, List.getElem?_cons_succ, List.getElem?_cons_zero]; exact rfl)
                            case hfd158 => kernel_rfl
                            case hrd158 => kernel_rfl
                            case hQd158 => exact fun _ _ _ h => h
                            case hyd158 =>
                              refine Or.inl ⟨by rfl, ?_⟩
                              intro w
                              go_simp
                              (try with_reducible rfl)
                            try simp only [Act.put, List.setIfInBounds_toArray, List.set_cons_zero, List.set_cons_succ]
                            refine wpAny_take (i := 24) (oi := ?oid159) (v := ?vd159) ?hod159 (by kernel_rfl) ?hfd159 ?hrd159 ?hQd159 ?hyd159 ?restd159
                            case hod159 => (simp only [List.getElem?_toArray, List.getElem?_cons_succ, List.getElem?_cons_zero]; exact rfl)
                            case hfd159 => kernel_rfl
                            case hrd159 => kernel_rfl
                            case hQd159 => exact fun _ _ _ h => h
                            case hyd159 =>
                              refine Or.inl ⟨by rfl, ?_⟩
                              intro w
                              go_simp
                              (try with_reducible rfl)
                            try simp only [Act.put, List.setIfInBounds_toArray, List.set_cons_zero, List.set_cons_succ]
                            refine wpAny_ready (rs := [25]) (by kernel_rfl) (by simp) ?_
                            refine AllReady.cons (o := ?od160) ?hod160 (fun K hK => ?kd160) ?md160
                            case hod160 => (simp only [List.getElem?_toArray, List.getElem?_cons_succ, List.getElem?_cons_zero]; exact rfl)
                            case kd160 =>
                              refine anyd_loadStr (by rfl) (.tmp 200) rfl bn (on + j) _ (by rfl) HCN.out ?_
                              refine hK _ _ ?_
                              clear hK K
                              try simp only [Act.put, List.setIfInBounds_toArray, List.set_cons_zero, List.set_cons_succ]
                              refine wpAny_take (i := 26) (oi := ?oid161) (v := ?vd161) ?hod161 (by kernel_rfl) ?hfd161 ?hrd161 ?hQd161 ?hyd161 ?restd161
                              case hod161 => (simp only [List.getElem?_toArray, List.getElem?_cons_succ, List.getElem?_cons_zero]; exact rfl)
                              case hfd161 => kernel_rfl
                              case hrd161 => kernel_rfl
                              case hQd161 => exact fun _ _ _ h => h
                              case hyd161 =>
                                refine Or.inl ⟨by rfl, ?_⟩
                                intro w
                                go_simp
                                (try with_reducible rfl)
                              try simp only [Act.put, List.setIfInBounds_toArray, List.set_cons_zero, List.set_cons_succ]
                              refine wpAny_take (i := 27) (oi := ?oid162) (v := ?vd162) ?hod162 (by kernel_rfl) ?hfd162 ?hrd162 ?hQd162 ?hyd162 ?restd162
                              case hod162 => (simp only [List.getElem?_toArray, List.getElem?_cons_succ, List.getElem?_cons_zero]; exact rfl)
                              case hfd162 => kernel_rfl
                              case hrd162 => kernel_rfl
                              case hQd162 => exact fun _ _ _ h => h
                              case hyd162 =>
                                refine Or.inl ⟨by rfl, ?_⟩
                                intro w
                                go_simp
                                (try with_reducible rfl)
                              try simp only [Act.put, List.setIfInBounds_toArray, List.set_cons_zero, List.set_cons_succ]
                              refine wpAny_take (i := 28) (oi := ?oid163) (v := ?vd163) ?hod163 (by kernel_rfl) ?hfd163 ?hrd163 ?hQd163 ?hyd163 ?restd163
                              case hod163 => (simp only [List.getElem?_toArray, List.getElem?_cons_succ, List.getElem?_cons_zero]; exact rfl)
                              case hfd163 => kernel_rfl
                              case hrd163 => kernel_rfl
                              case hQd163 => exact fun _ _ _ h => h
                              case hyd163 =>
                                refine Or.inl ⟨by rfl, ?_⟩
                                intro w
                                go_simp
                                (try with_reducible rfl)
                              try simp only [Act.put, List.setIfInBounds_toArray, List.set_cons_zero, List.set_cons_succ]
                              refine wpAny_take (i := 29) (oi := ?oid164) (v := ?vd164) ?hod164 (by kernel_rfl) ?hfd164 ?hrd164 ?hQd164 ?hyd164 ?restd164
                              case hod164 => (simp only [List.getElem?_toArray, List.getElem?_cons_succ, List.getElem?_cons_zero]; exact rfl)
                              case hfd164 => kernel_rfl
                              case hrd164 => kernel_rfl
                              case hQd164 => exact fun _ _ _ h => h
                              case hyd164 =>
                                refine Or.inl ⟨by rfl, ?_⟩
                                intro w
                                go_simp
                                (try with_reducible rfl)
                              try simp only [Act.put, List.setIfInBounds_toArray, List.set_cons_zero, List.set_cons_succ]
                              refine wpAny_take (i := 30) (oi := ?oid165) (v := ?vd165) ?hod165 (by kernel_rfl) ?hfd165 ?hrd165 ?hQd165 ?hyd165 ?restd165
                              case hod165 => (simp only [List.getElem?_toArray, List.getElem?_cons_succ, List.getElem?_cons_zero]; exact rfl)
                              case hfd165 => kernel_rfl
                              case hrd165 => kernel_rfl
                              case hQd165 => exact fun _ _ _ h => h
                              case hyd165 =>
                                refine Or.inl ⟨by rfl, ?_⟩
                                intro w
                                go_simp
                                (try with_reducible rfl)
                              try simp only [Act.put, List.setIfInBounds_toArray, List.set_cons_zero, List.set_cons_succ]
                              refine wpAny_take (i := 31) (oi := ?oid166) (v := ?vd166) ?hod166 (by kernel_rfl) ?hfd166 ?hrd166 ?hQd166 ?hyd166 ?restd166
                              case hod166 => (simp only [List.getElem?_toArray, List.getElem?_cons_succ, List.getElem?_cons_zero]; exact rfl)
                              case hfd166 => kernel_rfl
                              case hrd166 => kernel_rfl
                              case hQd166 => exact fun _ _ _ h => h
                              case hyd166 =>
                                refine Or.inl ⟨by rfl, ?_⟩
                                intro w
                                go_simp
                                (try with_reducible rfl)
                              try simp only [Act.put, List.setIfInBounds_toArray, List.set_cons_zero, List.set_cons_succ]
                              exact wpAny_done (by kernel_rfl) (hEnd _ hf0) _
                            exact AllReady.nil
                          exact AllReady.nil
                        refine AllReady.cons (o := ?od167) ?hod167 (fun K hK => ?kd167) ?md167
                        case hod167 => (simp only [List.getElem?_toArray, List.getElem?_cons_succ, List.getElem?_cons_zero]; exact rfl)
                        case kd167 =>
                          refine anyd_loadStr (by rfl) (.tmp 192) rfl bn (on + j) _ (by rfl) HCN.out ?_
                          refine hK _ _ ?_
                          clear hK K
                          try simp only [Act.put, List.setIfInBounds_toArray, List.set_cons_zero, List.set_cons_succ]
                          refine wpAny_ready (rs := [13]) (by kernel_rfl) (by simp) ?_
                          refine AllReady.cons (o := ?od168) ?hod168 (fun K hK => ?kd168) ?md168
                          case hod168 => (simp only [List.getElem?_toArray, List.getElem?_cons_succ, List.getElem?_cons_zero]; exact rfl)
                          case kd168 =>
                            refine anyd_loadStr (by rfl) (.tmp 188) rfl bm (om + j) _ (by rfl) HCM.out ?_
                            refine hK _ _ ?_
                            clear hK K
                            try simp only [Act.put, List.setIfInBounds_toArray, List.set_cons_zero, List.set_cons_succ]
                            refine wpAny_take (i := 18) (oi := ?oid169) (v := ?vd169) ?hod169 (by kernel_rfl) ?hfd169 ?hrd169 ?hQd169 ?hyd169 ?restd169
                            case hod169 => (simp only [List.getElem?_toArray, List.getElem?_cons_succ, List.getElem?_cons_zero]; exact rfl)
                            case hfd169 => kernel_rfl
                            case hrd169 => kernel_rfl
                            case hQd169 => exact fun _ _ _ h => h
                            case hyd169 =>
                              refine Or.inl ⟨by rfl, ?_⟩
                              intro w
                              go_simp
                              (try with_reducible rfl)
                            try simp only [Act.put, List.setIfInBounds_toArray, List.set_cons_zero, List.set_cons_succ]
                            refine wpAny_take (i := 19) (oi := ?oid170) (v := ?vd170) ?hod170 (by kernel_rfl) ?hfd170 ?hrd170 ?hQd170 ?hyd170 ?restd170
                            case hod170 => (simp only [List.getElem?_toArray, List.getElem?_cons_succ, List.getElem?_cons_zero]; exact rfl)
                            case hfd170 => kernel_rfl
                            case hrd170 => kernel_rfl
                            case hQd170 => exact fun _ _ _ h => h
                            case hyd170 =>
                              refine Or.inl ⟨by rfl, ?_⟩
                              intro w
                              go_simp
                              (try with_reducible rfl)
                            try simp only [Act.put, List.setIfInBounds_toArray, List.set_cons_zero, List.set_cons_succ]
                            refine wpAny_take (i := 20) (oi := ?oid171) (v := ?vd171) ?hod171 (by kernel_rfl) ?hfd171 ?hrd171 ?hQd171 ?hyd171 ?restd171
                            case hod171 => (simp only [List.getElem?_toArray, List.getElem?_cons_succ, List.getElem?_cons_zero]; exact rfl)
                            case hfd171 => kernel_rfl
                            case hrd171 => kernel_rfl
                            case hQd171 => exact fun _ _ _ h => h
                            case hyd171 =>
                              refine Or.inl ⟨by rfl, ?_⟩
                              intro w
                              go_simp
                              (try with_reducible rfl)
                            try simp only [Act.put, List.setIfInBounds_toArray, List.set_cons_zero, List.set_cons_succ]
                            refine wpAny_take (i := 21) (oi := ?oid172) (v := ?vd172) ?hod172 (by kernel_rfl) ?hfd172 ?hrd172 ?hQd172 ?hyd172 ?restd172
                            case hod172 => (simp only [List.getElem?_toArray, List.getElem?_cons_succ, List.getElem?_cons_zero]; exact rfl)
                            case hfd172 => kernel_rfl
                            case hrd172 => kernel_rfl
                            case hQd172 => exact fun _ _ _ h => h
                            case hyd172 =>
                              refine Or.inl ⟨by rfl, ?_⟩
                              intro w
                              go_simp
                              (try with_reducible rfl)
                            try simp only [Act.put, List.setIfInBounds_toArray, List.set_cons_zero, List.set_cons_succ]
                            refine wpAny_take (i := 22) (oi := ?oid173) (v := ?vd173) ?hod173 (by kernel_rfl) ?hfd173 ?hrd173 ?hQd173 ?hyd173 ?restd173
                            case hod173 => (simp only [List.getElem?_toArray, List.getElem?_cons_succ, List.getElem?_cons_zero]; exact rfl)
                            case hfd173 => kernel_rfl
                            case hrd173 => kernel_rfl
                            case hQd173 => exact fun _ _ _ h => h
                            case hyd173 =>
                              refine Or.inl ⟨by rfl, ?_⟩
                              intro w
                              go_simp
                              (try with_reducible rfl)
                            try simp only [Act.put, List.setIfInBounds_toArray, List.set_cons_zero, List.set_cons_succ]
                            refine wpAny_take (i := 23) (oi := ?oid174) (v := ?vd174) ?hod174 (by kernel_rfl) ?hfd174 ?hrd174 ?hQd174 ?hyd174 ?restd174
                            case hod174 => (simp only [List.getElem?_toArray, List.getElem?_cons_succ, List.getElem?_cons_zero]; exact rfl)
                            case hfd174 => kernel_rfl
                            case hrd174 => kernel_rfl
                            case hQd174 => exact fun _ _ _ h => h
                            case hyd174 =>
                              refine Or.inl ⟨by rfl, ?_⟩
                              intro w
                              go_simp
                              (try with_reducible rfl)
                            try simp only [Act.put, List.setIfInBounds_toArray, List.set_cons_zero, List.set_cons_succ]
                            refine wpAny_take (i := 24) (oi := ?oid175) (v := ?vd175) ?hod175 (by kernel_rfl) ?hfd175 ?hrd175 ?hQd175 ?hyd175 ?restd175
                            case hod175 => (simp only [List.getElem?_toArray, List.getElem?_cons_succ, List.getElem?_cons_zero]; exact rfl)
                            case hfd175 => kernel_rfl
                            case hrd175 => kernel_rfl
                            case hQd175 => exact fun _ _ _ h => h
                            case hyd175 =>
                              refine Or.inl ⟨by rfl, ?_⟩
                              intro w
                              go_simp
                              (try with_reducible rfl)
                            try simp only [Act.put, List.setIfInBounds_toArray, List.set_cons_zero, List.set_cons_succ]
                            refine wpAny_ready (rs := [25]) (by kernel_rfl) (by simp) ?_
                            refine AllReady.cons (o := ?od176) ?hod176 (fun K hK => ?kd176) ?md176
                            case hod176 => (simp only [List.getElem?_toArray, List.getElem?_cons_succ, List.getElem?_cons_zero]; exact rfl)
                            case kd176 =>
                              refine anyd_loadStr (by rfl) (.tmp 200) rfl bn (on + j) _ (by rfl) HCN.out ?_
                              refine hK _ _ ?_
                              clear hK K
                              try simp only [Act.put, List.setIfInBounds_toArray, List.set_cons_zero, List.set_cons_succ]
                              refine wpAny_take (i := 26) (oi := ?oid177) (v := ?vd177) ?hod177 (by kernel_rfl) ?hfd177 ?hrd177 ?hQd177 ?hyd177 ?restd177
                              case hod177 => (simp only [List.getElem?_toArray, List.getElem?_cons_succ, List.getElem?_cons_zero]; exact rfl)
                              case hfd177 => kernel_rfl
                              case hrd177 => kernel_rfl
                              case hQd177 => exact fun _ _ _ h => h
                              case hyd177 =>
                                refine Or.inl ⟨by rfl, ?_⟩
                                intro w
                                go_simp
                                (try with_reducible rfl)
                              try simp only [Act.put, List.setIfInBounds_toArray, List.set_cons_zero, List.set_cons_succ]
                              refine wpAny_take (i := 27) (oi := ?oid178) (v := ?vd178) ?hod178 (by kernel_rfl) ?hfd178 ?hrd178 ?hQd178 ?hyd178 ?restd178
                              case hod178 => (simp only [List.getElem?_toArray, List.getElem?_cons_succ, List.getElem?_cons_zero]; exact rfl)
                              case hfd178 => kernel_rfl
                              case hrd178 => kernel_rfl
                              case hQd178 => exact fun _ _ _ h => h
                              case hyd178 =>
                                refine Or.inl ⟨by rfl, ?_⟩
                                intro w
                                go_simp
                                (try with_reducible rfl)
                              try simp only [Act.put, List.setIfInBounds_toArray, List.set_cons_zero, List.set_cons_succ]
                              refine wpAny_take (i := 28) (oi := ?oid179) (v := ?vd179) ?hod179 (by kernel_rfl) ?hfd179 ?hrd179 ?hQd179 ?hyd179 ?restd179
                              case hod179 => (simp only [List.getElem?_toArray, List.getElem?_cons_succ, List.getElem?_cons_zero]; exact rfl)
                              case hfd179 => kernel_rfl
                              case hrd179 => kernel_rfl
                              case hQd179 => exact fun _ _ _ h => h
                              case hyd179 =>
                                refine Or.inl ⟨by rfl, ?_⟩
                                intro w
                                go_simp
                                (try with_reducible rfl)
                              try simp only [Act.put, List.setIfInBounds_toArray, List.set_cons_zero, List.set_cons_succ]
                              refine wpAny_take (i := 29) (oi := ?oid180) (v := ?vd180) ?hod180 (by kernel_rfl) ?hfd180 ?hrd180 ?hQd180 ?hyd180 ?restd180
                              case hod180 => (simp only [List.getElem?_toArray, List.getElem?_cons_succ, List.getElem?_cons_zero]; exact rfl)
                              case hfd180 => kernel_rfl
                              case hrd180 => kernel_rfl
                              case hQd180 => exact fun _ _ _ h => h
                              case hyd180 =>
                                refine Or.inl ⟨by rfl, ?_⟩
                                intro w
                                go_simp
                                (try with_reducible rfl)
                              try simp only [Act.put, List.setIfInBounds_toArray, List.set_cons_zero, List.set_cons_succ]
                              refine wpAny_take (i := 30) (oi := ?oid181) (v := ?vd181) ?hod181 (by kernel_rfl) ?hfd181 ?hrd181 ?hQd181 ?hyd181 ?restd181
                              case hod181 => (simp only [List.getElem?_toArray, List.getElem?_cons_succ, List.getElem?_cons_zero]; exact rfl)
                              case hfd181 => kernel_rfl
                              case hrd181 => kernel_rfl
                              case hQd181 => exact fun _ _ _ h => h
                              case hyd181 =>
                                refine Or.inl ⟨by rfl, ?_⟩
                                intro w
                                go_simp
                                (try with_reducible rfl)
                              try simp only [Act.put, List.setIfInBounds_toArray, List.set_cons_zero, List.set_cons_succ]
                              refine wpAny_take (i := 31) (oi := ?oid182) (v := ?vd182) ?hod182 (by kernel_rfl) ?hfd182 ?hrd182 ?hQd182 ?hyd182 ?restd182
                              case hod182 => (simp only [List.getElem?_toArray, List.getElem?_cons_succ, List.getElem?_cons_zero]; exact rfl)
                              case hfd182 => kernel_rfl
                              case hrd182 => kernel_rfl
                              case hQd182 => exact fun _ _ _ h => h
                              case hyd182 =>
                                refine Or.inl ⟨by rfl, ?_⟩
                                intro w
                                go_simp
                                (try with_reducible rfl)
                              try simp only [Act.put, List.setIfInBounds_toArray, List.set_cons_zero, List.set_cons_succ]
                              exact wpAny_done (by kernel_rfl) (hEnd _ hf0) _
                            exact AllReady.nil
                          exact AllReady.nil
                        exact AllReady.nil
                      exact AllReady.nil
                    exact AllReady.nil
                  case cd92 =>
                    rintro V3 rfl
                    repeat (first | go_skip | go_guarded | go_step)
                    go_roundw
                    case rel => exact ⟨j + 1, by omega, by go_num, z + 1, by rw [HV2.out]; rfl⟩
                    case measure => simp [intOf]; omega
                · obtain rfl : j = acc.length := by omega
                  have hbV : Below w.heap.size w (W5.drewN z) := belowDrews hbw5 z
                  generalize W5.drewN z = V at *
                  go_wp2_with (go_at_call 9; refine (works_any hmay _).mono ?_; rintro e w7 ⟨rfl, hb7⟩)
                  go_ret
                  exact ⟨rfl, hbV.trans (hb7.mono hbV.size)⟩
      · exact absurd rfl h

set_option maxRecDepth 100000 in
theorem lifted (os : Os) (started : os.Started) (H : Type) (enc : TypeId × Value → H) :
    ReturnsInHanded {} Try.checked os 7 .any (Rows.symsOrderSpec.pre6 enc Try.prog Try.f7 Rows.symsOrderRow.domain false) (Rows.symsOrderSpec.post enc Try.prog Try.f7 false true false false) := by
  refine returnsInHanded_of_change_sized (C := Try.checked) ownK started (by kernel_rfl) Try.func7
    (ChangeSpec.witness6 (enc := enc) (C := Try.checked) false ⟨#[], #[.slice none 0 0, .slice none 0 0], []⟩ 8 (by kernel_rfl) (by kernel_rfl) (by kernel_rfl) (by kernel_rfl)) ?_
  intro W base args ds gs before hval0 hW hcnd hsz0 _
  have hsz : (DataW.weightsEach Try.prog (Try.f7.params.toList ++ Rows.symsOrderSpec.plain.varTypes Try.prog) (ds ++ gs)).all (· ≤ reachBytes) = true := hsz0
  have hval : ∀ (j : Nat) t v, Try.f7.params[j]? = some t → args[j]? = some v → Value.okWide Try.prog W .any base t v := hval0
  have hlt : ∀ x ∈ before, x.block < W.heap.size := fun x hx => by simpa using hW.lt x hx
  have hW' := hW
  obtain ⟨p, q, hA0, hV, rfl, hfz, hnd⟩ := hW
  have hA : DataW.TrodAll enc Try.prog W 0 (fun _ => true) true Try.f7.params.toList args.toList ds p := hA0
  rw [Try.params7] at hA hval hsz
  obtain ⟨v0, vs0, d0, ds0, p0, q0, hargs, rfl, rfl, h0, r0⟩ := trodAll_cons hA
  obtain ⟨v1, vs1, d1, ds1, p1, q1, rfl, rfl, rfl, h1, r1⟩ := trodAll_cons r0
  obtain ⟨rfl, rfl, rfl⟩ := trodAll_nil r1
  obtain rfl : args = #[v0, v1] := by cases args; simp_all
  obtain ⟨rfl, rfl⟩ := trodVars_none hV
  obtain ⟨A1, n1, c1, ag, rfl, hk1, hm1, hr1⟩ := open_bytes (hval 1 49 v1 rfl rfl) h1 (fun x hx => hlt x (by simp [hx])) (fun elems spare e => by
    have := sized_slice hsz (j := 1) (t := 49) (e := 5) (elems := elems) (spare := spare) rfl (by rw [e]; rfl) Try.underlying49
    rw [bytes8] at this
    simp only [reachBytes] at this
    omega)
  obtain ⟨A0, n0, c0, l0, rfl, hk0, hm0, hr0, hz0⟩ := open_names (hval 0 22 v0 rfl rfl) h0 (fun x hx => hlt x (by simp [hx]))
  have main : Calls Try.prog 7 #[.slice A0 n0 c0, .slice A1 n1 c1] W fun e w' => e = .returned (.bool true) ∧ Below W.heap.size W w' := by
    by_cases hb : (decide (n0 ≤ 300) && fewB l0) = true ∧ n1 ≤ 60
    · exact walk may_ok A0 A1 n0 c0 n1 c1 l0 ag W hr0 hr1 hb.1 hb.2
    · refine walkBig may_ok A0 A1 n0 c0 n1 c1 l0 W hr0 ?_
      rcases hx : (decide (n0 ≤ 300) && fewB l0) with _ | _
      · exact .inl rfl
      · refine .inr ?_
        rcases Nat.lt_or_ge 60 n1 with h | h
        · exact h
        · exact absurd ⟨hx, h⟩ hb
  refine main.mono fun e W' ⟨he, hg⟩ => ?_
  subst he
  exact ⟨_, rfl, post_law laidOut rfl (by kernel_rfl) hW' hg rfl Try.underlying4 rfl rfl rfl⟩

theorem proved : Rows.SymsOrderSaid :=
  OpenClaim.holds_of_wide 7 Try.f7 rfl rfl rfl rfl rfl rfl rfl ⟨rfl, rfl, rfl, rfl, rfl⟩ rfl rfl rfl rfl rfl (by kernel_rfl) Try.func7 (by kernel_rfl)
    (of_decide_eq_true (by kernel_rfl)) (by unfold Func.isWrapper; first | (rw [if_pos (by decide +kernel)]; kernel_rfl) | (rw [if_neg (by decide +kernel)]; exact ⟨rfl, rfl⟩))
    (fun os started H enc _ => lifted os started H enc)
#print axioms proved
end Go.Proofs.Ytaejidchoaejkaa.symsOrder
