/- Layer 7 (lex): blanks put in, words put behind each other, words wiped out; no program. -/
import Derived.Test.YtjafbkkdjmlaoaaLxM
set_option linter.unusedVariables false
set_option linter.unusedSimpArgs false
namespace Go.Proofs.Ytjafbkkdjmlaoaa
open Go Go.RowKit

/-! ### blanks put in -/
theorem shutBl.app {s t : List UInt8} (hs : shutBl s) (ht : shutBl t) : shutBl (s ++ t) := fun l => by
  rw [List.append_assoc, hs, ht, List.length_append]; omega
theorem shutBl_nil : shutBl [] := fun l => by simp
theorem lexG_shut {s : List UInt8} (hs : shutBl s) (a : Nat) (l : List UInt8) : lexG a (s ++ l) = lexG (a + s.length) l := by
  have hb := hs l
  have hdr : (s ++ l).drop (blN false (s ++ l)) = l.drop (blN false l) := by
    rw [hb, ← List.drop_drop, List.drop_left]
  by_cases h : l.drop (blN false l) = []
  · rw [lexG_end (hdr.trans h), lexG_end h]
  · obtain ⟨k, n, hw⟩ : ∃ k n, wordN (l.drop (blN false l)) = (k, n) := ⟨_, _, rfl⟩
    by_cases h0 : n = 0
    · subst h0
      rw [lexG_bad hdr h (by rw [hw]), lexG_bad rfl h (by rw [hw]), hb]
      simp only [Prod.mk.injEq, Option.some.injEq, true_and]
      omega
    · rw [lexG_word hdr hw h0, lexG_word rfl hw h0, hb, show a + (s.length + blN false l) = a + s.length + blN false l by omega]
/-- Blanks behind. -/
theorem lexG_tail {d : UInt8} {s : List UInt8} (hd : okB d = false) (h45 : d ≠ 45) (hs : allBl (d :: s)) (a0 : Nat) (a : List UInt8) : lexG a0 (a ++ d :: s) = lexG a0 a := by
  have hnl := blN_app (d :: s) hs false a
  have hle := blN_le false a
  by_cases h : blN false a = a.length
  · rw [if_pos h] at hnl
    rw [lexG_end (blN_drop.2 h), lexG_end (blN_drop.2 (by rw [hnl]; simp))]
  · rw [if_neg h] at hnl
    have hne : a.drop (blN false a) ≠ [] := fun hd => h (blN_drop.1 hd)
    have hdr : (a ++ d :: s).drop (blN false (a ++ d :: s)) = a.drop (blN false a) ++ d :: s := by
      rw [hnl, List.drop_append_of_le_length hle]
    have hw1 := wordN_stop hd h45 s hne
    obtain ⟨k, n, hw⟩ : ∃ k n, wordN (a.drop (blN false a)) = (k, n) := ⟨_, _, rfl⟩
    have hwl := wordN_le (a.drop (blN false a))
    rw [hw] at hw1 hwl
    dsimp only at hwl
    by_cases h0 : n = 0
    · subst h0
      rw [lexG_bad hdr (by simp) (by rw [hw1]), lexG_bad rfl hne (by rw [hw]), hnl]
    · have hlt : ((a.drop (blN false a)).drop n).length < a.length := by
        rw [List.length_drop] at hwl
        simp only [List.length_drop]
        omega
      have ih := lexG_tail hd h45 hs (a0 + blN false a + n) ((a.drop (blN false a)).drop n)
      rw [lexG_word hdr hw1 h0, lexG_word rfl hw h0, hnl, List.drop_append_of_le_length hwl, List.take_append_of_le_length hwl, ih]
termination_by a.length
/-- The five blanks of the statement. -/
def chunk (i : Nat) : List UInt8 := match i with
  | 0 => [32] | 1 => [9] | 2 => [10] | 3 => [13] | _ => [37, 32, 115, 97, 105, 100, 32, 40, 32, 97, 10]
theorem chunk_shut (i : Nat) : shutBl (chunk i) := by
  intro l
  unfold chunk
  split <;> simp [blN, isBl] <;> omega
theorem chunk_true (i : Nat) {t : List UInt8} (h1 : blN false t = t.length) (h2 : blN true t = t.length) : blN true (chunk i ++ t) = (chunk i).length + t.length := by
  unfold chunk
  split <;> simp [blN, isBl, h1, h2] <;> omega
theorem chunk_len (i : Nat) : 1 ≤ (chunk i).length ∧ (chunk i).length ≤ 11 := by
  unfold chunk
  split <;> simp
theorem chunks_shut : ∀ l : List Nat, shutBl (l.flatMap chunk)
  | [] => shutBl_nil
  | i :: l => by rw [List.flatMap_cons]; exact (chunk_shut i).app (chunks_shut l)
theorem chunks_all : ∀ l : List Nat, allBl (l.flatMap chunk)
  | [] => ⟨rfl, rfl⟩
  | i :: l => by
    obtain ⟨h1, h2⟩ := chunks_all l
    rw [List.flatMap_cons]
    refine ⟨?_, by rw [chunk_true i h1 h2, List.length_append]⟩
    rw [chunk_shut i, h1, List.length_append]
theorem chunk_head (i : Nat) : ∃ d s, chunk i = d :: s ∧ okB d = false ∧ d ≠ 45 := by
  unfold chunk
  split <;> exact ⟨_, _, rfl, by decide, by decide⟩
theorem lexG_chunks (l : List Nat) (a0 : Nat) (a : List UInt8) : lexG a0 (a ++ l.flatMap chunk) = lexG a0 a := by
  cases l with
  | nil => rw [List.flatMap_nil, List.append_nil]
  | cons i l =>
    have hall := chunks_all (i :: l)
    rw [List.flatMap_cons] at hall ⊢
    obtain ⟨d, s, hc, h1, h2⟩ := chunk_head i
    rw [hc, List.cons_append] at hall ⊢
    exact lexG_tail h1 h2 hall a0 a

/-! ### each word stands where it says -/
/-- The words stand in the text, one behind the other. -/
def Stand (bs : List UInt8) : Nat → List Wd → Prop
  | _, [] => True
  | last, w :: ws => w.2.1 ≠ [] ∧ last ≤ w.2.2 ∧ w.2.2 + w.2.1.length ≤ bs.length ∧ (bs.drop w.2.2).take w.2.1.length = w.2.1 ∧ Stand bs (w.2.2 + w.2.1.length) ws
theorem Stand.more {bs : List UInt8} {a b : Nat} {ws : List Wd} (h : Stand bs a ws) (hb : b ≤ a) : Stand bs b ws := by
  cases ws with
  | nil => trivial
  | cons w ws => exact ⟨h.1, Nat.le_trans hb h.2.1, h.2.2⟩
theorem lexG_stand (p l : List UInt8) : Stand (p ++ l) p.length (lexG p.length l).1 := by
  by_cases h : l.drop (blN false l) = []
  · rw [lexG_end h]; trivial
  · obtain ⟨k, n, hw⟩ : ∃ k n, wordN (l.drop (blN false l)) = (k, n) := ⟨_, _, rfl⟩
    have hwl := wordN_le (l.drop (blN false l))
    rw [hw, List.length_drop] at hwl
    dsimp only at hwl
    have hbl := blN_le false l
    by_cases h0 : n = 0
    · subst h0
      rw [lexG_bad rfl h (by rw [hw])]; trivial
    · rw [lexG_word rfl hw h0]
      have hlen : ((l.drop (blN false l)).take n).length = n := by rw [List.length_take, List.length_drop]; omega
      have hlt : ((l.drop (blN false l)).drop n).length < l.length := by simp only [List.length_drop]; omega
      have ih := lexG_stand (p ++ l.take (blN false l + n)) ((l.drop (blN false l)).drop n)
      have hpl : (p ++ l.take (blN false l + n)).length = p.length + blN false l + n := by rw [List.length_append, List.length_take]; omega
      rw [hpl, List.drop_drop, List.append_assoc, List.take_append_drop, ← List.drop_drop] at ih
      refine ⟨fun e => h0 (by rw [← hlen]; exact congrArg List.length e), by dsimp only; omega, ?_, ?_, ?_⟩
      · dsimp only
        rw [hlen, List.length_append]
        omega
      · dsimp only
        rw [hlen, List.drop_append, List.drop_of_length_le (by omega), List.nil_append, show p.length + blN false l - p.length = blN false l by omega]
      · dsimp only
        rw [hlen]
        exact ih
termination_by l.length

/-! ### words wiped out -/
/-- A word's bytes made blank. -/
def wipe (bs : List UInt8) (w : Wd) : List UInt8 := bs.take w.2.2 ++ (List.replicate w.2.1.length 32 ++ bs.drop (w.2.2 + w.2.1.length))
theorem blN_repl (n : Nat) (x : List UInt8) : blN false (List.replicate n 32 ++ x) = n + blN false x := by
  induction n with
  | zero => simp
  | succ n ih =>
    rw [List.replicate_succ, List.cons_append, blN, if_neg (by decide)]
    simp only [show isBl 32 = true from rfl, if_true]
    rw [ih]; omega
theorem blN_pre (x : List UInt8) : ∀ (cm : Bool) (l : List UInt8), l.drop (blN cm l) ≠ [] → blN cm (l.take (blN cm l) ++ x) = blN cm l + blN false x
  | true, [] => by simp [blN]
  | false, [] => by simp [blN]
  | true, c :: l => by
    have h1 := blN_pre x false l
    have h2 := blN_pre x true l
    intro h
    rw [blN] at h ⊢
    by_cases hc : c = 10
    · rw [if_pos hc] at h ⊢
      rw [Nat.add_comm 1] at h ⊢
      rw [List.drop_succ_cons] at h
      rw [List.take_succ_cons, List.cons_append, blN, if_pos hc, h1 h]; omega
    · rw [if_neg hc] at h ⊢
      rw [Nat.add_comm 1] at h ⊢
      rw [List.drop_succ_cons] at h
      rw [List.take_succ_cons, List.cons_append, blN, if_neg hc, h2 h]; omega
  | false, c :: l => by
    have h1 := blN_pre x false l
    have h2 := blN_pre x true l
    intro h
    rw [blN] at h ⊢
    by_cases hc : c = 37
    · rw [if_pos hc] at h ⊢
      rw [Nat.add_comm 1] at h ⊢
      rw [List.drop_succ_cons] at h
      rw [List.take_succ_cons, List.cons_append, blN, if_pos hc, h2 h]; omega
    · rw [if_neg hc] at h ⊢
      cases hb : isBl c with
      | false => simp
      | true =>
        rw [hb] at h
        simp only [if_true] at h ⊢
        rw [Nat.add_comm 1] at h ⊢
        rw [List.drop_succ_cons] at h
        rw [List.take_succ_cons, List.cons_append, blN, if_neg hc]
        simp only [hb, if_true]
        rw [h1 h]; omega
theorem lexG_wipe (p l : List UInt8) (h : (lexG p.length l).2 = none) : ∃ r : List UInt8, (lexG p.length l).1.foldl wipe (p ++ l) = p ++ r ∧ r.length = l.length ∧ blN false r = r.length := by
  by_cases h1 : l.drop (blN false l) = []
  · rw [lexG_end h1]
    exact ⟨l, rfl, rfl, blN_drop.1 h1⟩
  · obtain ⟨k, n, hw⟩ : ∃ k n, wordN (l.drop (blN false l)) = (k, n) := ⟨_, _, rfl⟩
    have hwl := wordN_le (l.drop (blN false l))
    rw [hw, List.length_drop] at hwl
    dsimp only at hwl
    have hbl := blN_le false l
    by_cases h0 : n = 0
    · subst h0
      rw [lexG_bad rfl h1 (by rw [hw])] at h
      cases h
    · rw [lexG_word rfl hw h0] at h ⊢
      dsimp only at h
      have hlen : ((l.drop (blN false l)).take n).length = n := by rw [List.length_take, List.length_drop]; omega
      have hlt : ((l.drop (blN false l)).drop n).length < l.length := by simp only [List.length_drop]; omega
      have hpl : (p ++ (l.take (blN false l) ++ List.replicate n 32)).length = p.length + blN false l + n := by simp only [List.length_append, List.length_take, List.length_replicate]; omega
      have ih := lexG_wipe (p ++ (l.take (blN false l) ++ List.replicate n 32)) ((l.drop (blN false l)).drop n)
      rw [hpl] at ih
      obtain ⟨r, hr, hrl, hrb⟩ := ih h
      refine ⟨l.take (blN false l) ++ (List.replicate n 32 ++ r), ?_, ?_, ?_⟩
      · rw [List.foldl_cons]
        have e : wipe (p ++ l) (k, (l.drop (blN false l)).take n, p.length + blN false l) = p ++ (l.take (blN false l) ++ List.replicate n 32) ++ (l.drop (blN false l)).drop n := by
          unfold wipe
          dsimp only
          rw [hlen, List.take_append, List.drop_append, List.take_of_length_le (by omega), List.drop_of_length_le (by omega), List.nil_append]
          rw [show p.length + blN false l - p.length = blN false l by omega, show p.length + blN false l + n - p.length = blN false l + n by omega, ← List.drop_drop]
          simp only [List.append_assoc]
        rw [e, hr]
        simp only [List.append_assoc]
      · simp only [List.length_append, List.length_take, List.length_replicate, hrl, List.length_drop]
        omega
      · rw [blN_pre _ false l h1, blN_repl, hrb]
        simp only [List.length_append, List.length_take, List.length_replicate]
        omega
termination_by l.length

/-! ### words joined -/
theorem blN_next : ∀ (cm : Bool) (l : List UInt8), l.drop (blN cm l) ≠ [] → blN false (l.drop (blN cm l)) = 0
  | true, [] => by simp [blN]
  | false, [] => by simp [blN]
  | true, c :: l => by
    have h1 := blN_next false l
    have h2 := blN_next true l
    intro h
    rw [blN] at h ⊢
    by_cases hc : c = 10
    · rw [if_pos hc, Nat.add_comm 1, List.drop_succ_cons] at h ⊢
      exact h1 h
    · rw [if_neg hc, Nat.add_comm 1, List.drop_succ_cons] at h ⊢
      exact h2 h
  | false, c :: l => by
    have h1 := blN_next false l
    have h2 := blN_next true l
    intro h
    rw [blN] at h ⊢
    by_cases hc : c = 37
    · rw [if_pos hc, Nat.add_comm 1, List.drop_succ_cons] at h ⊢
      exact h2 h
    · rw [if_neg hc] at h ⊢
      cases hb : isBl c with
      | false => simp [blN, hc, hb]
      | true =>
        rw [hb] at h
        simp only [if_true] at h ⊢
        rw [Nat.add_comm 1, List.drop_succ_cons] at h ⊢
        exact h1 h
theorem blN_zero {l : List UInt8} (h : blN false l = 0) (hl : l ≠ []) : ∃ c r, l = c :: r ∧ ∀ x, blN false (c :: x) = 0 := by
  cases l with
  | nil => exact absurd rfl hl
  | cons c r =>
    refine ⟨c, r, rfl, fun x => ?_⟩
    rw [blN] at h ⊢
    by_cases hc : c = 37
    · rw [if_pos hc] at h; omega
    · rw [if_neg hc] at h ⊢
      cases hb : isBl c with
      | false => simp
      | true => rw [hb] at h; simp at h
theorem markN_ok {c : UInt8} (hc : okB c = true) (r : List UInt8) : markN (c :: r) = (0, 0) := by
  unfold markN
  dsimp only
  rw [if_neg (by rintro rfl; simp [okB] at hc), if_neg (by rintro rfl; simp [okB] at hc), if_neg (by rintro rfl; simp [okB] at hc), if_neg (by rintro rfl; simp [okB] at hc), if_neg (by rintro ⟨rfl, _⟩; simp [okB] at hc)]
theorem takeWhile_take {p : UInt8 → Bool} : ∀ l : List UInt8, (l.take (l.takeWhile p).length).takeWhile p = l.take (l.takeWhile p).length
  | [] => by simp
  | c :: l => by
    rw [List.takeWhile_cons]
    cases hp : p c with
    | false => simp
    | true =>
      simp only [if_true, List.length_cons, List.take_succ_cons, List.takeWhile_cons, hp]
      rw [takeWhile_take l]
/-- A word alone is that word. -/
theorem wordN_self {l : List UInt8} {k n : Nat} (h : wordN l = (k, n)) (h0 : n ≠ 0) : wordN (l.take n) = (k, n) := by
  unfold wordN at h
  split at h
  · rename_i hm
    cases l with
    | nil => simp [markN] at hm
    | cons c r =>
      have hk : markN ((c :: r).take n) = (k, n) := by
        have h' := h
        unfold markN at h'
        dsimp only at h'
        repeat' split at h'
        all_goals simp only [Prod.mk.injEq] at h'
        · obtain ⟨rfl, rfl⟩ := h'; rename_i e; subst e; rfl
        · obtain ⟨rfl, rfl⟩ := h'; rename_i e; subst e; rfl
        · obtain ⟨rfl, rfl⟩ := h'; rename_i e; subst e; rfl
        · obtain ⟨rfl, rfl⟩ := h'; rename_i e; subst e; rfl
        · obtain ⟨rfl, rfl⟩ := h'
          rename_i e
          obtain ⟨rfl, e⟩ := e
          cases r with
          | nil => simp at e
          | cons d r =>
            simp only [List.head?_cons, Option.some.injEq] at e
            subst e
            rfl
        · omega
      unfold wordN
      rw [hk, if_pos h0]
  · split at h
    · simp only [Prod.mk.injEq] at h
      omega
    · rename_i hm hn
      simp only [Prod.mk.injEq] at h
      obtain ⟨hk, hl⟩ := h
      subst hl
      have hlet : letN (l.take (letN l)) = letN l := by
        unfold letN
        rw [takeWhile_take, List.length_take]
        have := letN_le l
        unfold letN at this
        omega
      have hmk : markN (l.take (letN l)) = (0, 0) := by
        cases l with
        | nil => simp [letN] at h0
        | cons c r =>
          have hc : okB c = true := by
            cases hc : okB c with
            | true => rfl
            | false => unfold letN at h0; rw [List.takeWhile_cons, hc] at h0; simp at h0
          have h1 : ∃ m, letN (c :: r) = m + 1 := ⟨letN (c :: r) - 1, by omega⟩
          obtain ⟨m, hm⟩ := h1
          rw [hm, List.take_succ_cons]
          exact markN_ok hc _
      unfold wordN
      rw [hmk, if_neg (by simp), hlet, if_neg hn, List.take_take, Nat.min_self, hk]
/-- A list of words, each as it stands alone. -/
def Alone (ws : List Wd) : Prop := ∀ w ∈ ws, wordN w.2.1 = (w.1, w.2.1.length) ∧ w.2.1 ≠ [] ∧ ∀ x, blN false (w.2.1 ++ x) = 0
theorem lexG_alone (a : Nat) (l : List UInt8) : Alone (lexG a l).1 := by
  by_cases h : l.drop (blN false l) = []
  · rw [lexG_end h]; intro w hw; cases hw
  · obtain ⟨k, n, hw⟩ : ∃ k n, wordN (l.drop (blN false l)) = (k, n) := ⟨_, _, rfl⟩
    have hwl := wordN_le (l.drop (blN false l))
    rw [hw] at hwl
    dsimp only at hwl
    by_cases h0 : n = 0
    · subst h0
      rw [lexG_bad rfl h (by rw [hw])]; intro w hw; cases hw
    · rw [lexG_word rfl hw h0]
      have hlt : ((l.drop (blN false l)).drop n).length < l.length := by
        have hbl := blN_le false l
        rw [List.length_drop] at hwl
        simp only [List.length_drop]
        omega
      have ih := lexG_alone (a + blN false l + n) ((l.drop (blN false l)).drop n)
      have hlen : ((l.drop (blN false l)).take n).length = n := by rw [List.length_take]; omega
      intro w hmem
      rcases List.mem_cons.1 hmem with rfl | hmem
      · refine ⟨by dsimp only; rw [hlen]; exact wordN_self hw h0, fun e => h0 (by rw [← hlen]; exact congrArg List.length e), fun x => ?_⟩
        dsimp only
        obtain ⟨c, r, hc, hx⟩ := blN_zero (blN_next false l h) h
        rw [hc]
        obtain ⟨m, rfl⟩ : ∃ m, n = m + 1 := ⟨n - 1, by omega⟩
        rw [List.take_succ_cons, List.cons_append]
        exact hx _
      · exact ih w hmem
termination_by l.length
theorem shut32 : shutBl [32] := fun l => by
  rw [List.cons_append, List.nil_append, blN, if_neg (by decide)]
  simp [isBl]
/-- What words are, but for their places. -/
def texts (ws : List Wd) : List (Nat × List UInt8) := ws.map fun w => (w.1, w.2.1)
theorem lexG_join : ∀ (ws : List Wd) (a : Nat), Alone ws → (lexG a (joinL ws)).2 = none ∧ texts (lexG a (joinL ws)).1 = texts ws
  | [], a, _ => by
    rw [joinL, lexG_end (by rfl)]
    exact ⟨rfl, rfl⟩
  | [w], a, h => by
    obtain ⟨h1, h2, h3⟩ := h w (by simp)
    have hb := h3 []
    rw [List.append_nil] at hb
    rw [joinL, lexG_word (by rw [hb]; rfl) h1 (fun e => h2 (List.eq_nil_of_length_eq_zero e)), List.drop_of_length_le (Nat.le_refl _), lexG_end (by rfl), List.take_of_length_le (Nat.le_refl _)]
    exact ⟨rfl, rfl⟩
  | w :: v :: r, a, h => by
    obtain ⟨h1, h2, h3⟩ := h w (by simp)
    have hb := h3 (32 :: joinL (v :: r))
    have hw := wordN_stop (d := 32) (by decide) (by decide) (joinL (v :: r)) h2
    rw [h1] at hw
    obtain ⟨i1, i2⟩ := lexG_join (v :: r) (a + 0 + w.2.1.length + 1) (fun x hx => h x (List.mem_cons_of_mem _ hx))
    have hs := lexG_shut shut32 (a + 0 + w.2.1.length) (joinL (v :: r))
    rw [List.cons_append, List.nil_append] at hs
    rw [joinL, lexG_word (by rw [hb]; rfl) hw (fun e => h2 (List.eq_nil_of_length_eq_zero e)), List.drop_left, List.take_left, hb, hs]
    refine ⟨i1, ?_⟩
    show (w.1, w.2.1) :: texts _ = (w.1, w.2.1) :: texts (v :: r)
    rw [← i2]
    rfl
theorem joinL_len {bs : List UInt8} : ∀ (ws : List Wd) (a : Nat), Stand bs a ws → a ≤ bs.length → (joinL ws).length + 2 * a ≤ 2 * bs.length
  | [], a, _, ha => by simp [joinL]; omega
  | [w], a, h, ha => by
    have := h.2.1
    have := h.2.2.1
    simp only [joinL]
    omega
  | w :: v :: r, a, h, ha => by
    have h1 := h.2.1
    have h2 := h.2.2.1
    have h3 := joinL_len (v :: r) _ h.2.2.2.2 (by omega)
    have h4 : 1 ≤ w.2.1.length := by
      cases hw : w.2.1 with
      | nil => exact absurd hw h.1
      | cons c l => simp
    simp only [joinL, List.length_append, List.length_cons]
    omega
theorem lexG_pos (a : Nat) (l : List UInt8) {k : Nat} (h : (lexG a l).2 = some k) : a ≤ k ∧ k < a + l.length := by
  by_cases h1 : l.drop (blN false l) = []
  · rw [lexG_end h1] at h; cases h
  · obtain ⟨kk, n, hw⟩ : ∃ k n, wordN (l.drop (blN false l)) = (k, n) := ⟨_, _, rfl⟩
    have hwl := wordN_le (l.drop (blN false l))
    rw [hw, List.length_drop] at hwl
    dsimp only at hwl
    have hbl := blN_le false l
    have hb1 : blN false l < l.length := by
      rcases Nat.lt_or_ge (blN false l) l.length with h2 | h2
      · exact h2
      · exact absurd (List.drop_of_length_le h2) h1
    by_cases h0 : n = 0
    · subst h0
      rw [lexG_bad rfl h1 (by rw [hw])] at h
      simp only [Option.some.injEq] at h
      omega
    · rw [lexG_word rfl hw h0] at h
      have hlt : ((l.drop (blN false l)).drop n).length < l.length := by simp only [List.length_drop]; omega
      have ih := lexG_pos _ _ h
      simp only [List.length_drop] at ih
      omega
termination_by l.length
end Go.Proofs.Ytjafbkkdjmlaoaa
