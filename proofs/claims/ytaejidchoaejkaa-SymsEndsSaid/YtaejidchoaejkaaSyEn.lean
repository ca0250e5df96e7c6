/- SymsEnds: how long a name may be, of which bytes; how many there may be. No condition. -/
import Derived.Test.YtaejidchoaejkaaSyQ
import Derived.Test.YtaejidchoaejkaaSyG
import Derived.Test.YtaejidchoaejkaaSyK
import Derived.Test.YtaejidchoaejkaaSyC
import Derived.Test.YtaejidchoaejkaaSyO
import Derived.Test.YtaejidchoaejkaaSyY
set_option linter.unusedVariables false
set_option linter.unusedSimpArgs false
namespace Go.Proofs.Ytaejidchoaejkaa.symsEnds
open Go Go.RowKit Go.ChangeShapes Go.WideShapes Go.ChangeAt

theorem u8inf : (Try.prog.info? 5).map (fun i => (i.zero, i.size, i.bytes)) = some (some (.int .u8 0), 1, 1) := by kernel_rfl
/-- string(..) of a row of bytes, in a drawn region. -/
theorem anyd_strs {ops : Array Oper} {E : Prop} {o : Oper} {a : Act} {K : Act → World → Prop} {Q : Exit → Act → World → Prop} {w : World} (hwant : Region.wanted o (yielded ops a.tmps) = true) (x : Operand)
    (ho : o.op = .convert 49 9 x) (B : Nat) (A : Option Addr) (n c : Nat) (l : List UInt8) (hx : a.eval x = .slice A n c) (hr : Rd w B 1 A n (l.map bv))
    (h : K (a.put o.dst (strV l)) w) : if Region.wanted o (yielded ops a.tmps) = true then Oper.wp Try.prog o a w K Q else E := by
  rw [if_pos hwant]
  unfold Oper.wp execOp
  simp only [ho, hx, Sem.run_bind, Sem.run_pure, Result.andThen_ok, run_conv_str (P := Try.prog) w 49 9 5 Try.underlying49 Try.underlying5 Try.underlying9 B A n c l hr]
  exact h

def mkx (N i : Nat) : List Value := List.replicate i (.int .u8 120) ++ List.replicate (N - i) (.int .u8 0)
theorem mkx_len (N i : Nat) (h : i ≤ N) : (mkx N i).length = N := by simp [mkx]; omega
theorem mkx_set (N i : Nat) (h : i < N) : (mkx N i).set i (.int .u8 120) = mkx N (i + 1) := by
  unfold mkx
  obtain ⟨m, hm⟩ : ∃ m, N - i = m + 1 := ⟨N - i - 1, by omega⟩
  have hm' : N - (i + 1) = m := by omega
  rw [hm, hm', List.set_append_right _ _ (by simp), List.length_replicate, Nat.sub_self, List.replicate_succ, List.set_cons_zero, List.replicate_succ']
  simp
theorem mkx_all (N : Nat) : mkx N N = (List.replicate N (120 : UInt8)).map bv := by simp [mkx, bv]
def tabL (n : Nat) : List ByteArray := (List.range n).map nthS
theorem tabL_len (n : Nat) : (tabL n).length = n := by simp [tabL]
theorem tabL_succ (n : Nat) : tabL (n + 1) = tabL n ++ [nthS n] := by simp [tabL, List.range_succ]
theorem tabL_not (n : Nat) : findO (tabL n) (nthS n) = none := findO_mem.2 fun h => by
  obtain ⟨k, hk, e⟩ := List.mem_map.1 h
  have := nthS_inj e
  have := List.mem_range.1 hk
  omega
theorem tabL_get {n k : Nat} (h : k < n) : (tabL n)[k]? = some (nthS k) := by simp [tabL, h]
theorem tabL_at {n k : Nat} (h : k < n) : findO (tabL n) (nthS k) = some k := findO_some (tabL_get h) fun j x hj hx e => by
  rw [tabL_get (by omega)] at hx
  simp only [Option.some.injEq] at hx
  rw [← hx] at e
  have := nthS_inj e
  omega
abbrev oneMore : ByteArray := ⟨#[111, 110, 101, 95, 109, 111, 114, 101]⟩
theorem more_not (n : Nat) : findO (tabL n) oneMore = none := findO_mem.2 fun h => by
  obtain ⟨k, hk, e⟩ := List.mem_map.1 h
  have h1 := congrArg (fun b : ByteArray => b.data.toList.head?) e
  simp [nthS, nthL] at h1
theorem put_more (n : Nat) (h : 4096 ≤ n) : putL (tabL n) oneMore = (tabL n, 0, 6) := by
  unfold putL
  rw [if_neg (by decide +kernel), more_not]
  simp [tabL_len, h]
theorem put_next (n : Nat) (h : n < 4096) : putL (tabL n) (nthS n) = (tabL (n + 1), n, 0) := by
  rw [putL_new (may_nth n (by omega)) (tabL_not n) (by rw [tabL_len]; exact h), tabL_succ, tabL_len]
theorem put_at (n k : Nat) (h : k < n) (h2 : k < 4096) : putL (tabL n) (nthS k) = (tabL n, k, 0) := putL_old (may_nth k (by omega)) (tabL_at h)
theorem put_empty (n : Nat) : putL (tabL n) ⟨#[]⟩ = (tabL n, 0, 8) := putL_may (by decide +kernel)

set_option maxRecDepth 100000 in
set_option maxHeartbeats 1000000 in
theorem walkSmall (hmay : MayOk) (over : Int) (cb ab : Nat) (full : Bool) (w : World) (h1 : -128 ≤ over) (h2 : over < -31) :
    Calls Try.prog 5 #[.int .i8 over, .int .u8 (cb : Int), .int .u8 (ab : Int), .bool full] w fun e w' => e = .returned (.bool true) ∧ Below w.heap.size w w' := by
  have hd : decide ((32 : Int) + over < 1) = true := by simp; omega
  go_enter Try.func5, Try.ntmps5
  go_wp2_with (go_at_call 9; refine (works_any hmay _).mono ?_; rintro e w2 ⟨rfl, hb2⟩)
  go_ret
  exact ⟨rfl, hb2⟩

set_option maxRecDepth 100000 in
set_option maxHeartbeats 4000000 in
theorem walk (hmay : MayOk) (over : Int) (c : UInt8) (ab : Nat) (full : Bool) (N : Nat) (w : World) (hN : (32 : Int) + over = (N : Int)) (hN1 : 1 ≤ N) (hN2 : N ≤ 159) (ha : ab < 256) :
    Calls Try.prog 5 #[.int .i8 over, .int .u8 (c.toNat : Int), .int .u8 (ab : Int), .bool full] w fun e w' => e = .returned (.bool true) ∧ Below w.heap.size w w' := by
  have hd : decide ((N : Int) < 1) = false := by simp; omega
  obtain ⟨i0, hi, hz0, hz1, hz2⟩ := info_parts u8inf
  have ho1 : -32 < over := by omega
  have ho2 : over ≤ 127 := by omega
  go_enter Try.func5, Try.ntmps5
  repeat (first
    | (at_make; refine wpList_make_bk _ rfl _ _ 49 rfl 5 i0 (.int .u8 0) Try.underlying49 hi hz0 hz1 rfl _ _ _ _ N N rfl rfl (by rfl) (by rfl) (by omega) (by rw [hz2]; omega) (by simp only [maxLen]; omega) ?_; intro W1 hB1 hb1 hs1; clear hi hz0 hz1 hz2 hs1)
    | go_step)
  go_loopw [11] (fun p wr => ∃ i : Nat, i ≤ N ∧ p = .int .i64 (i : Int) ∧ Bk wr w.heap.size 5 (mkx N i) ∧ Below w.heap.size w wr)
    (fun p _ => N - (intOf p).toNat)
  case atStart => exact ⟨0, by omega, rfl, by simpa [mkx] using hB1, hb1⟩
  case round =>
    clear hB1 hb1
    obtain ⟨i, hi, rfl, hB, hb⟩ := hrel
    by_cases hlt : i < N
    · have hci : (i : Int) < (N : Int) := by omega
      have cu := hB.cell i
      rw [List.getElem?_eq_getElem (by rw [mkx_len _ _ hi]; omega)] at cu
      have fu := hB.frozen i
      have h2 := hB.set_ i (.int .u8 120)
      rw [mkx_set N i hlt] at h2
      have h3 := hb.setCell (p := ⟨w.heap.size, i, none⟩) (Nat.le_refl _) (.int .u8 120)
      have H2 := Lib.hid h2
      have H3 := Lib.hid h3
      clear h2 h3 hB hb
      go_wp2
      go_roundw
      case rel => exact ⟨i + 1, by omega, by go_num, H2.out, H3.out⟩
      case measure => simp [intOf]; omega
    · obtain rfl : N = i := by omega
      rename World => W2
      rw [mkx_all] at hB
      obtain ⟨j, hj⟩ : ∃ j, j = ab % N := ⟨_, rfl⟩
      have hjl : j < N := by rw [hj]; exact Nat.mod_lt _ (by omega)
      have e1 : (ab : Int).tmod (N : Int) = (j : Int) := by rw [Int.tmod_eq_emod_of_nonneg (by omega), hj]; simp
      have e2 : (ab : Int) % (N : Int) = (j : Int) := by rw [hj]; simp
      have hcj : (j : Int) < (N : Int) := by omega
      have cu := hB.cell j
      rw [List.getElem?_map, List.getElem?_replicate, if_pos hjl, Option.map_some] at cu
      have fu := hB.frozen j
      obtain ⟨bs, hbs⟩ : ∃ bs, bs = (List.replicate N (120 : UInt8)).set j c := ⟨_, rfl⟩
      have h2 := hB.set_ j (bv c)
      rw [← List.map_set, ← hbs] at h2
      have hbl : bs.length = N := by rw [hbs]; simp
      have h3 := hb.setCell (p := ⟨w.heap.size, j, none⟩) (Nat.le_refl _) (bv c)
      obtain ⟨U, hU⟩ : ∃ U, U = W2.setCell ⟨w.heap.size, j, none⟩ (.int .u8 (c.toNat : Int)) := ⟨_, rfl⟩
      have HBU : Hid (Bk U w.heap.size 5 (bs.map bv)) := by rw [hU]; exact h2
      have hbU : Below w.heap.size w U := by rw [hU]; exact h3
      have HU := Lib.hid hU
      have hru : Rd U.drew U.drew.heap.size 1 (some ⟨w.heap.size, 0, none⟩) N (bs.map bv) := by
        have h := HBU.out.rd N (by simp [hbl])
        rw [List.take_of_length_le (by simp [hbl])] at h
        exact h
      have HRU := Lib.hid hru
      have hsz : (⟨bs.toArray⟩ : ByteArray).size ≤ 1099511627776 := by simp [ByteArray.size, hbl]; omega
      have HM := Lib.hid (hmay ⟨bs.toArray⟩ U.drew hsz)
      have HR := Lib.hid (rMay_any ⟨bs.toArray⟩ U.drew hsz)
      clear hj hB hb hbs h2 h3 hU hru hlt hi
      repeat (first | go_skip | go_guarded | go_step)
      rw [show W2.setCell ⟨w.heap.size, j, none⟩ (.int .u8 (c.toNat : Int)) = U from HU.out.symm]
      generalize mayB ⟨bs.toArray⟩ = mb at *
      cases mb with
      | false =>
        refine wp_region_any (by kernel_rfl) ?_
        try (change wpAny _ _ _ _ _ _ _ (World.drew _))
        refine wpAny_meet (b := ?ad1) (fun V => V = U.drew) ?cd1 ?rd1
        case rd1 =>
          intro hEnd
          have hf0 : U.drew = U.drew := rfl
          refine wpAny_take (i := 0) (oi := ?oid2) (v := ?vd2) ?hod2 (by kernel_rfl) ?hfd2 ?hrd2 ?hQd2 ?hyd2 ?restd2
          case hod2 => (simp only [List.getElem?_toArray, List.getElem?_cons_succ, List.getElem?_cons_zero]; exact rfl)
          case hfd2 => kernel_rfl
          case hrd2 => kernel_rfl
          case hQd2 => exact fun _ _ _ h => h
          case hyd2 =>
            refine Or.inl ⟨by rfl, ?_⟩
            intro w
            go_simp
            (try with_reducible rfl)
          try simp only [Act.put, List.setIfInBounds_toArray, List.set_cons_zero, List.set_cons_succ]
          refine wpAny_take (i := 3) (oi := ?oid3) (v := ?vd3) ?hod3 (by kernel_rfl) ?hfd3 ?hrd3 ?hQd3 ?hyd3 ?restd3
          case hod3 => (simp only [List.getElem?_toArray, List.getElem?_cons_succ, List.getElem?_cons_zero]; exact rfl)
          case hfd3 => kernel_rfl
          case hrd3 => kernel_rfl
          case hQd3 => exact fun _ _ _ h => h
          case hyd3 =>
            refine Or.inl ⟨by rfl, ?_⟩
            intro w
            go_simp
            (try with_reducible rfl)
          try simp only [Act.put, List.setIfInBounds_toArray, List.set_cons_zero, List.set_cons_succ]
          refine wpAny_ready (rs := [1, 4]) (by kernel_rfl) (by simp) ?_
          refine AllReady.cons (o := ?od4) ?hod4 (fun K hK => ?kd4) ?md4
          case hod4 => (simp only [List.getElem?_toArray, List.getElem?_cons_succ, List.getElem?_cons_zero]; exact rfl)
          case kd4 =>
            refine anyd_strs (by rfl) (.tmp 45) rfl _ _ _ _ bs (by rfl) HRU.out ?_
            refine hK _ _ ?_
            clear hK K
            try simp only [Act.put, List.setIfInBounds_toArray, List.set_cons_zero, List.set_cons_succ]
            refine wpAny_ready (rs := [2, 4]) (by kernel_rfl) (by simp) ?_
            refine AllReady.cons (o := ?od5) ?hod5 (fun K hK => ?kd5) ?md5
            case hod5 => (simp only [List.getElem?_toArray, List.getElem?_cons_succ, List.getElem?_cons_zero]; exact rfl)
            case kd5 =>
              go_simp
              refine HM.out.mono ?_
              rintro e V ⟨rfl, rfl⟩
              (try dsimp only)
              refine hK _ _ ?_
              clear hK K
              try simp only [Act.put, List.setIfInBounds_toArray, List.set_cons_zero, List.set_cons_succ]
              refine wpAny_ready (rs := [4]) (by kernel_rfl) (by simp) ?_
              refine AllReady.cons (o := ?od6) ?hod6 (fun K hK => ?kd6) ?md6
              case hod6 => (simp only [List.getElem?_toArray, List.getElem?_cons_succ, List.getElem?_cons_zero]; exact rfl)
              case kd6 =>
                refine anyd_strs (by rfl) (.tmp 48) rfl _ _ _ _ bs (by rfl) HRU.out ?_
                refine hK _ _ ?_
                clear hK K
                try simp only [Act.put, List.setIfInBounds_toArray, List.set_cons_zero, List.set_cons_succ]
                refine wpAny_ready (rs := [5]) (by kernel_rfl) (by simp) ?_
                refine AllReady.cons (o := ?od7) ?hod7 (fun K hK => ?kd7) ?md7
                case hod7 => (simp only [List.getElem?_toArray, List.getElem?_cons_succ, List.getElem?_cons_zero]; exact rfl)
                case kd7 =>
                  go_simp
                  refine HR.out.mono ?_
                  rintro e V ⟨rfl, rfl⟩
                  (try dsimp only)
                  refine hK _ _ ?_
                  clear hK K
                  try simp only [Act.put, List.setIfInBounds_toArray, List.set_cons_zero, List.set_cons_succ]
                  refine wpAny_take (i := 6) (oi := ?oid8) (v := ?vd8) ?hod8 (by kernel_rfl) ?hfd8 ?hrd8 ?hQd8 ?hyd8 ?restd8
                  case hod8 => (simp only [List.getElem?_toArray, List.getElem?_cons_succ, List.getElem?_cons_zero]; exact rfl)
                  case hfd8 => kernel_rfl
                  case hrd8 => kernel_rfl
                  case hQd8 => exact fun _ _ _ h => h
                  case hyd8 =>
                    refine Or.inl ⟨by rfl, ?_⟩
                    intro w
                    go_simp
                    (try with_reducible rfl)
                  try simp only [Act.put, List.setIfInBounds_toArray, List.set_cons_zero, List.set_cons_succ]
                  exact wpAny_done (by kernel_rfl) (hEnd _ hf0) _
                exact AllReady.nil
              exact AllReady.nil
            refine AllReady.cons (o := ?od9) ?hod9 (fun K hK => ?kd9) ?md9
            case hod9 => (simp only [List.getElem?_toArray, List.getElem?_cons_succ, List.getElem?_cons_zero]; exact rfl)
            case kd9 =>
              refine anyd_strs (by rfl) (.tmp 48) rfl _ _ _ _ bs (by rfl) HRU.out ?_
              refine hK _ _ ?_
              clear hK K
              try simp only [Act.put, List.setIfInBounds_toArray, List.set_cons_zero, List.set_cons_succ]
              refine wpAny_ready (rs := [2]) (by kernel_rfl) (by simp) ?_
              refine AllReady.cons (o := ?od10) ?hod10 (fun K hK => ?kd10) ?md10
              case hod10 => (simp only [List.getElem?_toArray, List.getElem?_cons_succ, List.getElem?_cons_zero]; exact rfl)
              case kd10 =>
                go_simp
                refine HM.out.mono ?_
                rintro e V ⟨rfl, rfl⟩
                (try dsimp only)
                refine hK _ _ ?_
                clear hK K
                try simp only [Act.put, List.setIfInBounds_toArray, List.set_cons_zero, List.set_cons_succ]
                refine wpAny_ready (rs := [5]) (by kernel_rfl) (by simp) ?_
                refine AllReady.cons (o := ?od11) ?hod11 (fun K hK => ?kd11) ?md11
                case hod11 => (simp only [List.getElem?_toArray, List.getElem?_cons_succ, List.getElem?_cons_zero]; exact rfl)
                case kd11 =>
                  go_simp
                  refine HR.out.mono ?_
                  rintro e V ⟨rfl, rfl⟩
                  (try dsimp only)
                  refine hK _ _ ?_
                  clear hK K
                  try simp only [Act.put, List.setIfInBounds_toArray, List.set_cons_zero, List.set_cons_succ]
                  refine wpAny_take (i := 6) (oi := ?oid12) (v := ?vd12) ?hod12 (by kernel_rfl) ?hfd12 ?hrd12 ?hQd12 ?hyd12 ?restd12
                  case hod12 => (simp only [List.getElem?_toArray, List.getElem?_cons_succ, List.getElem?_cons_zero]; exact rfl)
                  case hfd12 => kernel_rfl
                  case hrd12 => kernel_rfl
                  case hQd12 => exact fun _ _ _ h => h
                  case hyd12 =>
                    refine Or.inl ⟨by rfl, ?_⟩
                    intro w
                    go_simp
                    (try with_reducible rfl)
                  try simp only [Act.put, List.setIfInBounds_toArray, List.set_cons_zero, List.set_cons_succ]
                  exact wpAny_done (by kernel_rfl) (hEnd _ hf0) _
                exact AllReady.nil
              exact AllReady.nil
            exact AllReady.nil
          refine AllReady.cons (o := ?od13) ?hod13 (fun K hK => ?kd13) ?md13
          case hod13 => (simp only [List.getElem?_toArray, List.getElem?_cons_succ, List.getElem?_cons_zero]; exact rfl)
          case kd13 =>
            refine anyd_strs (by rfl) (.tmp 48) rfl _ _ _ _ bs (by rfl) HRU.out ?_
            refine hK _ _ ?_
            clear hK K
            try simp only [Act.put, List.setIfInBounds_toArray, List.set_cons_zero, List.set_cons_succ]
            refine wpAny_ready (rs := [1]) (by kernel_rfl) (by simp) ?_
            refine AllReady.cons (o := ?od14) ?hod14 (fun K hK => ?kd14) ?md14
            case hod14 => (simp only [List.getElem?_toArray, List.getElem?_cons_succ, List.getElem?_cons_zero]; exact rfl)
            case kd14 =>
              refine anyd_strs (by rfl) (.tmp 45) rfl _ _ _ _ bs (by rfl) HRU.out ?_
              refine hK _ _ ?_
              clear hK K
              try simp only [Act.put, List.setIfInBounds_toArray, List.set_cons_zero, List.set_cons_succ]
              refine wpAny_ready (rs := [2]) (by kernel_rfl) (by simp) ?_
              refine AllReady.cons (o := ?od15) ?hod15 (fun K hK => ?kd15) ?md15
              case hod15 => (simp only [List.getElem?_toArray, List.getElem?_cons_succ, List.getElem?_cons_zero]; exact rfl)
              case kd15 =>
                go_simp
                refine HM.out.mono ?_
                rintro e V ⟨rfl, rfl⟩
                (try dsimp only)
                refine hK _ _ ?_
                clear hK K
                try simp only [Act.put, List.setIfInBounds_toArray, List.set_cons_zero, List.set_cons_succ]
                refine wpAny_ready (rs := [5]) (by kernel_rfl) (by simp) ?_
                refine AllReady.cons (o := ?od16) ?hod16 (fun K hK => ?kd16) ?md16
                case hod16 => (simp only [List.getElem?_toArray, List.getElem?_cons_succ, List.getElem?_cons_zero]; exact rfl)
                case kd16 =>
                  go_simp
                  refine HR.out.mono ?_
                  rintro e V ⟨rfl, rfl⟩
                  (try dsimp only)
                  refine hK _ _ ?_
                  clear hK K
                  try simp only [Act.put, List.setIfInBounds_toArray, List.set_cons_zero, List.set_cons_succ]
                  refine wpAny_take (i := 6) (oi := ?oid17) (v := ?vd17) ?hod17 (by kernel_rfl) ?hfd17 ?hrd17 ?hQd17 ?hyd17 ?restd17
                  case hod17 => (simp only [List.getElem?_toArray, List.getElem?_cons_succ, List.getElem?_cons_zero]; exact rfl)
                  case hfd17 => kernel_rfl
                  case hrd17 => kernel_rfl
                  case hQd17 => exact fun _ _ _ h => h
                  case hyd17 =>
                    refine Or.inl ⟨by rfl, ?_⟩
                    intro w
                    go_simp
                    (try with_reducible rfl)
                  try simp only [Act.put, List.setIfInBounds_toArray, List.set_cons_zero, List.set_cons_succ]
                  exact wpAny_done (by kernel_rfl) (hEnd _ hf0) _
                exact AllReady.nil
              exact AllReady.nil
            exact AllReady.nil
          exact AllReady.nil
        case cd1 =>
          rintro V rfl
          have hbV : Below w.heap.size w U.drew := hbU.drew
          generalize U.drew = V at *
          cases full with
          | false =>
            go_wp2_with (go_at_call 9; refine (works_any hmay _).mono ?_; rintro e w2 ⟨rfl, hb2⟩)
            go_ret
            exact ⟨rfl, hbV.trans (hb2.mono hbV.size)⟩
          | true =>
            clear HM HR HRU HU
            repeat (first | go_skip | go_guarded | go_step)
            refine (tNew V).mono ?_
            rintro e V1 ⟨g, F0, rfl, t0, hF0, hb0⟩
            have hbw0 := hbV.trans (hb0.mono hbV.size)
            have hF0w : ∀ k, F0 k → w.heap.size ≤ k := fun k hk => Nat.le_trans hbV.size (hF0 k hk)
            dsimp only
            repeat go_step
            go_loopw [13] (fun p wr => ∃ (i : Nat) (F : Nat → Prop), i ≤ 4096 ∧ p = .int .i64 (i : Int) ∧ Tb wr g F (tabL i) ∧ (∀ k, F k → w.heap.size ≤ k) ∧ Below w.heap.size w wr)
              (fun p _ => 4096 - (intOf p).toNat)
            case atStart => exact ⟨0, F0, by omega, rfl, t0, hF0w, hbw0⟩
            case round =>
              clear t0 hF0w hbw0 hF0 hb0 hbV
              obtain ⟨i, F, hi, rfl, htb, hX, hbw⟩ := hrel
              by_cases hlt : i < 4096
              · have hci : (i : Int) < 4096 := by omega
                have hns := nth_size i (by omega)
                have HX := Lib.hid hX
                have hlw : IntKind.u32.wrap (i : Int) = (i : Int) := by rw [IntKind.wrap_u32]; omega
                clear hX
                repeat go_step
                refine (nth_any i wr (by omega)).mono ?_
                rintro e w1 ⟨rfl, hb1⟩
                have htb1 := htb.later hb1
                have hbw1 := hbw.trans (hb1.mono hbw.size)
                clear htb hbw hb1
                dsimp only
                repeat go_step
                refine (tPut' hmay g F (tabL i) (nthS i) w.heap.size w1 htb1 HX.out hbw1.size (by rw [tabL_len]; omega) (by omega) _ _ _ (put_next i hlt)).mono ?_
                rintro e w2 ⟨rfl, F2, htb2, hF2, hb2⟩
                have hbw2 := hbw1.trans hb2
                have HX2 := Lib.hid hF2
                clear htb1 hbw1 hb2 hF2
                dsimp only
                go_wp2
                go_roundw
                case rel => exact ⟨i + 1, F2, by omega, by go_num, htb2, HX2.out, hbw2⟩
                case measure => simp [intOf]; omega
              · obtain rfl : i = 4096 := by omega
                repeat go_step
                refine (tPut' hmay g F (tabL 4096) oneMore w.heap.size wr htb hX hbw.size (by rw [tabL_len]; omega) (by decide) _ _ _ (put_more 4096 (by omega))).mono ?_
                rintro e w1 ⟨rfl, F1, htb1, hF1, hb1⟩
                have hbw1 := hbw.trans hb1
                have hns := nth_size ab (by omega)
                clear htb hX hbw hb1
                dsimp only
                repeat go_step
                refine (nth_any ab w1 (by omega)).mono ?_
                rintro e w2 ⟨rfl, hb2⟩
                have htb2 := htb1.later hb2
                have hbw2 := hbw1.trans (hb2.mono hbw1.size)
                clear htb1 hbw1 hb2
                dsimp only
                repeat go_step
                refine (tPut' hmay g F1 (tabL 4096) (nthS ab) w.heap.size w2 htb2 hF1 hbw2.size (by rw [tabL_len]; omega) (by omega) _ _ _ (put_at 4096 ab (by omega) (by omega))).mono ?_
                rintro e w3 ⟨rfl, F3, htb3, hF3, hb3⟩
                have hbw3 := hbw2.trans hb3
                clear htb2 hF1 hbw2 hb3
                dsimp only
                repeat go_step
                refine (tPut' hmay g F3 (tabL 4096) ⟨#[]⟩ w.heap.size w3 htb3 hF3 hbw3.size (by rw [tabL_len]; omega) (by decide) _ _ _ (put_empty 4096)).mono ?_
                rintro e w4 ⟨rfl, F4, htb4, hF4, hb4⟩
                have hbw4 := hbw3.trans hb4
                have hl4 := tabL_len 4096
                clear htb3 hF3 hbw3 hb4 hF4
                dsimp only
                repeat (first | go_skip | go_guarded | go_step)
                refine (tLen g F4 (tabL 4096) w4 htb4).mono ?_
                rintro e w5 ⟨rfl, rfl⟩
                rw [hl4]
                clear htb4 hl4
                dsimp only
                go_wp2_with (go_at_call 9; refine (works_any hmay _).mono ?_; rintro e w6 ⟨rfl, hb6⟩)
                go_ret
                exact ⟨rfl, hbw4.trans (hb6.mono hbw4.size)⟩
      | true =>
        refine wp_region_any (by kernel_rfl) ?_
        try (change wpAny _ _ _ _ _ _ _ (World.drew _))
        refine wpAny_meet (b := ?ad18) (fun V => V = U.drew) ?cd18 ?rd18
        case rd18 =>
          intro hEnd
          have hf0 : U.drew = U.drew := rfl
          refine wpAny_take (i := 0) (oi := ?oid19) (v := ?vd19) ?hod19 (by kernel_rfl) ?hfd19 ?hrd19 ?hQd19 ?hyd19 ?restd19
          case hod19 => (simp only [List.getElem?_toArray, List.getElem?_cons_succ, List.getElem?_cons_zero]; exact rfl)
          case hfd19 => kernel_rfl
          case hrd19 => kernel_rfl
          case hQd19 => exact fun _ _ _ h => h
          case hyd19 =>
            refine Or.inl ⟨by rfl, ?_⟩
            intro w
            go_simp
            (try with_reducible rfl)
          try simp only [Act.put, List.setIfInBounds_toArray, List.set_cons_zero, List.set_cons_succ]
          refine wpAny_take (i := 3) (oi := ?oid20) (v := ?vd20) ?hod20 (by kernel_rfl) ?hfd20 ?hrd20 ?hQd20 ?hyd20 ?restd20
          case hod20 => (simp only [List.getElem?_toArray, List.getElem?_cons_succ, List.getElem?_cons_zero]; exact rfl)
          case hfd20 => kernel_rfl
          case hrd20 => kernel_rfl
          case hQd20 => exact fun _ _ _ h => h
          case hyd20 =>
            refine Or.inl ⟨by rfl, ?_⟩
            intro w
            go_simp
            (try with_reducible rfl)
          try simp only [Act.put, List.setIfInBounds_toArray, List.set_cons_zero, List.set_cons_succ]
          refine wpAny_ready (rs := [1, 4]) (by kernel_rfl) (by simp) ?_
          refine AllReady.cons (o := ?od21) ?hod21 (fun K hK => ?kd21) ?md21
          case hod21 => (simp only [List.getElem?_toArray, List.getElem?_cons_succ, List.getElem?_cons_zero]; exact rfl)
          case kd21 =>
            refine anyd_strs (by rfl) (.tmp 45) rfl _ _ _ _ bs (by rfl) HRU.out ?_
            refine hK _ _ ?_
            clear hK K
            try simp only [Act.put, List.setIfInBounds_toArray, List.set_cons_zero, List.set_cons_succ]
            refine wpAny_ready (rs := [2, 4]) (by kernel_rfl) (by simp) ?_
            refine AllReady.cons (o := ?od22) ?hod22 (fun K hK => ?kd22) ?md22
            case hod22 => (simp only [List.getElem?_toArray, List.getElem?_cons_succ, List.getElem?_cons_zero]; exact rfl)
            case kd22 =>
              go_simp
              refine HM.out.mono ?_
              rintro e V ⟨rfl, rfl⟩
              (try dsimp only)
              refine hK _ _ ?_
              clear hK K
              try simp only [Act.put, List.setIfInBounds_toArray, List.set_cons_zero, List.set_cons_succ]
              refine wpAny_ready (rs := [4]) (by kernel_rfl) (by simp) ?_
              refine AllReady.cons (o := ?od23) ?hod23 (fun K hK => ?kd23) ?md23
              case hod23 => (simp only [List.getElem?_toArray, List.getElem?_cons_succ, List.getElem?_cons_zero]; exact rfl)
              case kd23 =>
                refine anyd_strs (by rfl) (.tmp 48) rfl _ _ _ _ bs (by rfl) HRU.out ?_
                refine hK _ _ ?_
                clear hK K
                try simp only [Act.put, List.setIfInBounds_toArray, List.set_cons_zero, List.set_cons_succ]
                refine wpAny_ready (rs := [5]) (by kernel_rfl) (by simp) ?_
                refine AllReady.cons (o := ?od24) ?hod24 (fun K hK => ?kd24) ?md24
                case hod24 => (simp only [List.getElem?_toArray, List.getElem?_cons_succ, List.getElem?_cons_zero]; exact rfl)
                case kd24 =>
                  go_simp
                  refine HR.out.mono ?_
                  rintro e V ⟨rfl, rfl⟩
                  (try dsimp only)
                  refine hK _ _ ?_
                  clear hK K
                  try simp only [Act.put, List.setIfInBounds_toArray, List.set_cons_zero, List.set_cons_succ]
                  refine wpAny_take (i := 6) (oi := ?oid25) (v := ?vd25) ?hod25 (by kernel_rfl) ?hfd25 ?hrd25 ?hQd25 ?hyd25 ?restd25
                  case hod25 => (simp only [List.getElem?_toArray, List.getElem?_cons_succ, List.getElem?_cons_zero]; exact rfl)
                  case hfd25 => kernel_rfl
                  case hrd25 => kernel_rfl
                  case hQd25 => exact fun _ _ _ h => h
                  case hyd25 =>
                    refine Or.inl ⟨by rfl, ?_⟩
                    intro w
                    go_simp
                    (try with_reducible rfl)
                  try simp only [Act.put, List.setIfInBounds_toArray, List.set_cons_zero, List.set_cons_succ]
                  exact wpAny_done (by kernel_rfl) (hEnd _ hf0) _
                exact AllReady.nil
              exact AllReady.nil
            refine AllReady.cons (o := ?od26) ?hod26 (fun K hK => ?kd26) ?md26
            case hod26 => (simp only [List.getElem?_toArray, List.getElem?_cons_succ, List.getElem?_cons_zero]; exact rfl)
            case kd26 =>
              refine anyd_strs (by rfl) (.tmp 48) rfl _ _ _ _ bs (by rfl) HRU.out ?_
              refine hK _ _ ?_
              clear hK K
              try simp only [Act.put, List.setIfInBounds_toArray, List.set_cons_zero, List.set_cons_succ]
              refine wpAny_ready (rs := [2]) (by kernel_rfl) (by simp) ?_
              refine AllReady.cons (o := ?od27) ?hod27 (fun K hK => ?kd27) ?md27
              case hod27 => (simp only [List.getElem?_toArray, List.getElem?_cons_succ, List.getElem?_cons_zero]; exact rfl)
              case kd27 =>
                go_simp
                refine HM.out.mono ?_
                rintro e V ⟨rfl, rfl⟩
                (try dsimp only)
                refine hK _ _ ?_
                clear hK K
                try simp only [Act.put, List.setIfInBounds_toArray, List.set_cons_zero, List.set_cons_succ]
                refine wpAny_ready (rs := [5]) (by kernel_rfl) (by simp) ?_
                refine AllReady.cons (o := ?od28) ?hod28 (fun K hK => ?kd28) ?md28
                case hod28 => (simp only [List.getElem?_toArray, List.getElem?_cons_succ, List.getElem?_cons_zero]; exact rfl)
                case kd28 =>
                  go_simp
                  refine HR.out.mono ?_
                  rintro e V ⟨rfl, rfl⟩
                  (try dsimp only)
                  refine hK _ _ ?_
                  clear hK K
                  try simp only [Act.put, List.setIfInBounds_toArray, List.set_cons_zero, List.set_cons_succ]
                  refine wpAny_take (i := 6) (oi := ?oid29) (v := ?vd29) ?hod29 (by kernel_rfl) ?hfd29 ?hrd29 ?hQd29 ?hyd29 ?restd29
                  case hod29 => (simp only [List.getElem?_toArray, List.getElem?_cons_succ, List.getElem?_cons_zero]; exact rfl)
                  case hfd29 => kernel_rfl
                  case hrd29 => kernel_rfl
                  case hQd29 => exact fun _ _ _ h => h
                  case hyd29 =>
                    refine Or.inl ⟨by rfl, ?_⟩
                    intro w
                    go_simp
                    (try with_reducible rfl)
                  try simp only [Act.put, List.setIfInBounds_toArray, List.set_cons_zero, List.set_cons_succ]
                  exact wpAny_done (by kernel_rfl) (hEnd _ hf0) _
                exact AllReady.nil
              exact AllReady.nil
            exact AllReady.nil
          refine AllReady.cons (o := ?od30) ?hod30 (fun K hK => ?kd30) ?md30
          case hod30 => (simp only [List.getElem?_toArray, List.getElem?_cons_succ, List.getElem?_cons_zero]; exact rfl)
          case kd30 =>
            refine anyd_strs (by rfl) (.tmp 48) rfl _ _ _ _ bs (by rfl) HRU.out ?_
            refine hK _ _ ?_
            clear hK K
            try simp only [Act.put, List.setIfInBounds_toArray, List.set_cons_zero, List.set_cons_succ]
            refine wpAny_ready (rs := [1]) (by kernel_rfl) (by simp) ?_
            refine AllReady.cons (o := ?od31) ?hod31 (fun K hK => ?kd31) ?md31
            case hod31 => (simp only [List.getElem?_toArray, List.getElem?_cons_succ, List.getElem?_cons_zero]; exact rfl)
            case kd31 =>
              refine anyd_strs (by rfl) (.tmp 45) rfl _ _ _ _ bs (by rfl) HRU.out ?_
              refine hK _ _ ?_
              clear hK K
              try simp only [Act.put, List.setIfInBounds_toArray, List.set_cons_zero, List.set_cons_succ]
              refine wpAny_ready (rs := [2]) (by kernel_rfl) (by simp) ?_
              refine AllReady.cons (o := ?od32) ?hod32 (fun K hK => ?kd32) ?md32
              case hod32 => (simp only [List.getElem?_toArray, List.getElem?_cons_succ, List.getElem?_cons_zero]; exact rfl)
              case kd32 =>
                go_simp
                refine HM.out.mono ?_
                rintro e V ⟨rfl, rfl⟩
                (try dsimp only)
                refine hK _ _ ?_
                clear hK K
                try simp only [Act.put, List.setIfInBounds_toArray, List.set_cons_zero, List.set_cons_succ]
                refine wpAny_ready (rs := [5]) (by kernel_rfl) (by simp) ?_
                refine AllReady.cons (o := ?od33) ?hod33 (fun K hK => ?kd33) ?md33
                case hod33 => (simp only [List.getElem?_toArray, List.getElem?_cons_succ, List.getElem?_cons_zero]; exact rfl)
                case kd33 =>
                  go_simp
                  refine HR.out.mono ?_
                  rintro e V ⟨rfl, rfl⟩
                  (try dsimp only)
                  refine hK _ _ ?_
                  clear hK K
                  try simp only [Act.put, List.setIfInBounds_toArray, List.set_cons_zero, List.set_cons_succ]
                  refine wpAny_take (i := 6) (oi := ?oid34) (v := ?vd34) ?hod34 (by kernel_rfl) ?hfd34 ?hrd34 ?hQd34 ?hyd34 ?restd34
                  case hod34 => (simp only [List.getElem?_toArray, List.getElem?_cons_succ, List.getElem?_cons_zero]; exact rfl)
                  case hfd34 => kernel_rfl
                  case hrd34 => kernel_rfl
                  case hQd34 => exact fun _ _ _ h => h
                  case hyd34 =>
                    refine Or.inl ⟨by rfl, ?_⟩
                    intro w
                    go_simp
                    (try with_reducible rfl)
                  try simp only [Act.put, List.setIfInBounds_toArray, List.set_cons_zero, List.set_cons_succ]
                  exact wpAny_done (by kernel_rfl) (hEnd _ hf0) _
                exact AllReady.nil
              exact AllReady.nil
            exact AllReady.nil
          exact AllReady.nil
        case cd18 =>
          rintro V rfl
          have hbV : Below w.heap.size w U.drew := hbU.drew
          generalize U.drew = V at *
          cases full with
          | false =>
            go_wp2_with (go_at_call 9; refine (works_any hmay _).mono ?_; rintro e w2 ⟨rfl, hb2⟩)
            go_ret
            exact ⟨rfl, hbV.trans (hb2.mono hbV.size)⟩
          | true =>
            clear HM HR HRU HU
            repeat (first | go_skip | go_guarded | go_step)
            refine (tNew V).mono ?_
            rintro e V1 ⟨g, F0, rfl, t0, hF0, hb0⟩
            have hbw0 := hbV.trans (hb0.mono hbV.size)
            have hF0w : ∀ k, F0 k → w.heap.size ≤ k := fun k hk => Nat.le_trans hbV.size (hF0 k hk)
            dsimp only
            repeat go_step
            go_loopw [13] (fun p wr => ∃ (i : Nat) (F : Nat → Prop), i ≤ 4096 ∧ p = .int .i64 (i : Int) ∧ Tb wr g F (tabL i) ∧ (∀ k, F k → w.heap.size ≤ k) ∧ Below w.heap.size w wr)
              (fun p _ => 4096 - (intOf p).toNat)
            case atStart => exact ⟨0, F0, by omega, rfl, t0, hF0w, hbw0⟩
            case round =>
              clear t0 hF0w hbw0 hF0 hb0 hbV
              obtain ⟨i, F, hi, rfl, htb, hX, hbw⟩ := hrel
              by_cases hlt : i < 4096
              · have hci : (i : Int) < 4096 := by omega
                have hns := nth_size i (by omega)
                have HX := Lib.hid hX
                have hlw : IntKind.u32.wrap (i : Int) = (i : Int) := by rw [IntKind.wrap_u32]; omega
                clear hX
                repeat go_step
                refine (nth_any i wr (by omega)).mono ?_
                rintro e w1 ⟨rfl, hb1⟩
                have htb1 := htb.later hb1
                have hbw1 := hbw.trans (hb1.mono hbw.size)
                clear htb hbw hb1
                dsimp only
                repeat go_step
                refine (tPut' hmay g F (tabL i) (nthS i) w.heap.size w1 htb1 HX.out hbw1.size (by rw [tabL_len]; omega) (by omega) _ _ _ (put_next i hlt)).mono ?_
                rintro e w2 ⟨rfl, F2, htb2, hF2, hb2⟩
                have hbw2 := hbw1.trans hb2
                have HX2 := Lib.hid hF2
                clear htb1 hbw1 hb2 hF2
                dsimp only
                go_wp2
                go_roundw
                case rel => exact ⟨i + 1, F2, by omega, by go_num, htb2, HX2.out, hbw2⟩
                case measure => simp [intOf]; omega
              · obtain rfl : i = 4096 := by omega
                repeat go_step
                refine (tPut' hmay g F (tabL 4096) oneMore w.heap.size wr htb hX hbw.size (by rw [tabL_len]; omega) (by decide) _ _ _ (put_more 4096 (by omega))).mono ?_
                rintro e w1 ⟨rfl, F1, htb1, hF1, hb1⟩
                have hbw1 := hbw.trans hb1
                have hns := nth_size ab (by omega)
                clear htb hX hbw hb1
                dsimp only
                repeat go_step
                refine (nth_any ab w1 (by omega)).mono ?_
                rintro e w2 ⟨rfl, hb2⟩
                have htb2 := htb1.later hb2
                have hbw2 := hbw1.trans (hb2.mono hbw1.size)
                clear htb1 hbw1 hb2
                dsimp only
                repeat go_step
                refine (tPut' hmay g F1 (tabL 4096) (nthS ab) w.heap.size w2 htb2 hF1 hbw2.size (by rw [tabL_len]; omega) (by omega) _ _ _ (put_at 4096 ab (by omega) (by omega))).mono ?_
                rintro e w3 ⟨rfl, F3, htb3, hF3, hb3⟩
                have hbw3 := hbw2.trans hb3
                clear htb2 hF1 hbw2 hb3
                dsimp only
                repeat go_step
                refine (tPut' hmay g F3 (tabL 4096) ⟨#[]⟩ w.heap.size w3 htb3 hF3 hbw3.size (by rw [tabL_len]; omega) (by decide) _ _ _ (put_empty 4096)).mono ?_
                rintro e w4 ⟨rfl, F4, htb4, hF4, hb4⟩
                have hbw4 := hbw3.trans hb4
                have hl4 := tabL_len 4096
                clear htb3 hF3 hbw3 hb4 hF4
                dsimp only
                repeat (first | go_skip | go_guarded | go_step)
                refine (tLen g F4 (tabL 4096) w4 htb4).mono ?_
                rintro e w5 ⟨rfl, rfl⟩
                rw [hl4]
                clear htb4 hl4
                dsimp only
                go_wp2_with (go_at_call 9; refine (works_any hmay _).mono ?_; rintro e w6 ⟨rfl, hb6⟩)
                go_ret
                exact ⟨rfl, hbw4.trans (hb6.mono hbw4.size)⟩

set_option maxRecDepth 100000 in
theorem lifted (os : Os) (started : os.Started) (H : Type) (enc : TypeId × Value → H) :
    ReturnsInHanded {} Try.checked os 5 .any (Rows.symsEndsSpec.pre6 enc Try.prog Try.f5 Rows.symsEndsRow.domain false) (Rows.symsEndsSpec.post enc Try.prog Try.f5 false true false false) := by
  refine returnsInHanded_of_change_sized (C := Try.checked) ownK started (by kernel_rfl) Try.func5
    (ChangeSpec.witness6 (enc := enc) (C := Try.checked) false ⟨#[], #[.int .i8 0, .int .u8 0, .int .u8 0, .bool false], []⟩ 8 (by kernel_rfl) (by kernel_rfl) (by kernel_rfl) (by kernel_rfl)) ?_
  intro W base args ds gs before hval0 hW hcnd hsz0 _
  have hsz : (DataW.weightsEach Try.prog (Try.f5.params.toList ++ Rows.symsEndsSpec.plain.varTypes Try.prog) (ds ++ gs)).all (· ≤ reachBytes) = true := hsz0
  have hval : ∀ (j : Nat) t v, Try.f5.params[j]? = some t → args[j]? = some v → Value.okWide Try.prog W .any base t v := hval0
  have hlt : ∀ x ∈ before, x.block < W.heap.size := fun x hx => by simpa using hW.lt x hx
  have hW' := hW
  obtain ⟨p, q, hA0, hV, rfl, hfz, hnd⟩ := hW
  have hA : DataW.TrodAll enc Try.prog W 0 (fun _ => true) true Try.f5.params.toList args.toList ds p := hA0
  rw [Try.params5] at hA hval hsz
  obtain ⟨v0, vs0, d0, ds0, p0, q0, hargs, rfl, rfl, h0, r0⟩ := trodAll_cons hA
  obtain ⟨v1, vs1, d1, ds1, p1, q1, rfl, rfl, rfl, h1, r1⟩ := trodAll_cons r0
  obtain ⟨v2, vs2, d2, ds2, p2, q2, rfl, rfl, rfl, h2, r2⟩ := trodAll_cons r1
  obtain ⟨v3, vs3, d3, ds3, p3, q3, rfl, rfl, rfl, h3, r3⟩ := trodAll_cons r2
  obtain ⟨rfl, rfl, rfl⟩ := trodAll_nil r3
  obtain rfl : args = #[v0, v1, v2, v3] := by cases args; simp_all
  obtain ⟨rfl, rfl⟩ := trodVars_none hV
  obtain ⟨full, rfl, rfl, rfl⟩ := Go.RowKit.open_bool Try.underlying4 (hval 3 4 v3 rfl rfl) h3
  obtain ⟨zab, rfl, rfl, rfl, wzab⟩ := open_int Try.underlying5 (hval 2 5 v2 rfl rfl) h2
  have bzab := bounds_u8 wzab
  obtain ⟨ab, rfl⟩ : ∃ m : Nat, zab = (m : Int) := ⟨zab.toNat, by omega⟩
  obtain ⟨zcb, rfl, rfl, rfl, wzcb⟩ := open_int Try.underlying5 (hval 1 5 v1 rfl rfl) h1
  have bzcb := bounds_u8 wzcb
  obtain ⟨cb, rfl⟩ : ∃ m : Nat, zcb = (m : Int) := ⟨zcb.toNat, by omega⟩
  obtain ⟨over, rfl, rfl, rfl, wover⟩ := open_int Try.underlying48 (hval 0 48 v0 rfl rfl) h0
  have bover := bounds_i8 wover
  obtain ⟨cu, rfl⟩ : ∃ x : UInt8, cb = x.toNat := ⟨UInt8.ofNat cb, (UInt8.toNat_ofNat_of_lt' (by show cb < 256; omega)).symm⟩
  have main : Calls Try.prog 5 #[.int .i8 over, .int .u8 (cu.toNat : Int), .int .u8 (ab : Int), .bool full] W fun e w' => e = .returned (.bool true) ∧ Below W.heap.size W w' := by
    by_cases hb : over < -31
    · exact walkSmall may_ok over cu.toNat ab full W (by omega) hb
    · exact walk may_ok over cu ab full (32 + over).toNat W (by omega) (by omega) (by omega) (by omega)
  refine main.mono fun e W' ⟨he, hg⟩ => ?_
  subst he
  exact ⟨_, rfl, post_law laidOut rfl (by kernel_rfl) hW' hg rfl Try.underlying4 rfl rfl rfl⟩

theorem proved : Rows.SymsEndsSaid :=
  OpenClaim.holds_of_wide 5 Try.f5 rfl rfl rfl rfl rfl rfl rfl ⟨rfl, rfl, rfl, rfl, rfl⟩ rfl rfl rfl rfl rfl (by kernel_rfl) Try.func5 (by kernel_rfl)
    (of_decide_eq_true (by kernel_rfl)) (by unfold Func.isWrapper; first | (rw [if_pos (by decide +kernel)]; kernel_rfl) | (rw [if_neg (by decide +kernel)]; exact ⟨rfl, rfl⟩))
    (fun os started H enc _ => lifted os started H enc)
#print axioms proved
end Go.Proofs.Ytaejidchoaejkaa.symsEnds
