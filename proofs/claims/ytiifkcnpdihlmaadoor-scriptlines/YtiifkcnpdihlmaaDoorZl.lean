/- Layer 22 without the model: what ScriptLines asks. -/
import Derived.Test.YtiifkcnpdihlmaaDoorXp
namespace Go.Proofs.YtiifkcnpdihlmaaDoor
set_option maxRecDepth 100000
set_option linter.unusedVariables false
set_option linter.unusedSimpArgs false
/-- no line is longer than 8000 bytes -/
def fewF : Nat → By → Bool
  | _, [] => true
  | b, c :: r => if c = 10 then fewF 0 r else if 8000 < b + 1 then false else fewF (b + 1) r
theorem few_lines : ∀ (r : By) (b : Nat), fewF b r = true → b ≤ 8000 → ((lnl r).headD []).length + b ≤ 8000 ∧ ∀ l ∈ (lnl r).tail, l.length ≤ 8000
  | [], b, _, hb => by simp [lnl]; exact hb
  | c :: r, b, h, hb => by
    unfold fewF at h
    by_cases hc : c = 10
    · rw [if_pos hc] at h
      obtain ⟨h1, h2⟩ := few_lines r 0 h (by decide)
      unfold lnl
      rw [if_pos hc]
      refine ⟨by simpa using hb, fun l hl => ?_⟩
      simp only [List.tail_cons] at hl
      cases hr : lnl r with
      | nil => rw [hr] at hl; cases hl
      | cons x xs =>
        rw [hr] at hl h1 h2
        rcases List.mem_cons.1 hl with rfl | q
        · simpa using h1
        · exact h2 l q
    · rw [if_neg hc] at h
      by_cases h8 : 8000 < b + 1
      · rw [if_pos h8] at h; cases h
      · rw [if_neg h8] at h
        obtain ⟨h1, h2⟩ := few_lines r (b + 1) h (by omega)
        unfold lnl
        rw [if_neg hc]
        cases hr : lnl r with
        | nil => simp; omega
        | cons x xs =>
          rw [hr] at h1 h2
          simp only [List.headD_cons, List.tail_cons, List.length_cons] at h1 h2 ⊢
          exact ⟨by omega, h2⟩
theorem few_all {t : By} (h : fewF 0 t = true) : ∀ l ∈ lnl t, l.length ≤ 8000 := by
  obtain ⟨h1, h2⟩ := few_lines t 0 h (by decide)
  intro l hl
  cases hr : lnl t with
  | nil => rw [hr] at hl; cases hl
  | cons x xs =>
    rw [hr] at hl h1 h2
    rcases List.mem_cons.1 hl with rfl | q
    · simpa using h1
    · exact h2 l q
theorem lnl_count : ∀ t : By, (lnl t).length ≤ t.count 10 + 1
  | [] => by simp [lnl]
  | c :: r => by
    have ih := lnl_count r
    unfold lnl
    by_cases hc : c = 10
    · subst hc
      rw [if_pos rfl, List.length_cons, List.count_cons_self]; omega
    · rw [if_neg hc, List.count_cons_of_ne hc]
      cases hr : lnl r with
      | nil => simp
      | cons x xs => rw [hr] at ih; simpa using ih
/-- lines laid one behind the other -/
abbrev flat (ls : List By) : By := ls.flatMap (· ++ [10])
theorem lnl_flat_append : ∀ (ls : List By) (r : By), (∀ l ∈ ls, (10 : UInt8) ∉ l) → lnl (flat ls ++ r) = ls ++ lnl r
  | [], r, _ => rfl
  | l :: ls, r, h => by
    have ih := lnl_flat_append ls r (fun x hx => h x (by simp [hx]))
    unfold flat at ih ⊢
    rw [List.flatMap_cons, List.append_assoc, List.append_assoc, List.singleton_append, lnl_cons _ _ (h l (by simp)), ih]
    rfl
theorem cmds_cons (l : By) (ls : List By) : cmds (l :: ls) = if says0 l = true then cmds ls else match plF l with
    | none => none
    | some c => (cmds ls).map (c :: ·) := by
  rw [cmds]
  rfl
theorem cmds_append : ∀ (a b : List By), cmds (a ++ b) = (cmds a).bind fun x => (cmds b).map (x ++ ·)
  | [], b => by cases h : cmds b <;> simp [cmds, h]
  | l :: a, b => by
    have ih := cmds_append a b
    rw [List.cons_append, cmds_cons, cmds_cons]
    split
    · exact ih
    · cases plF l with
      | none => rfl
      | some c =>
        simp only
        rw [ih]
        cases cmds a with
        | none => rfl
        | some x => cases cmds b <;> rfl
/-- a text whose limits are far -/
structure Few (t : By) : Prop where
  len : t.length ≤ 25000
  cnt : (lnl t).length ≤ 301
  ln : ∀ l ∈ lnl t, l.length ≤ 8000
theorem notLongF {t : By} (h1 : t.length ≤ 65536) (h2 : (lnl t).length ≤ 1024) (h3 : ∀ l ∈ lnl t, l.length ≤ 8192) : isLongF t = false := by
  unfold isLongF
  have a : decide (65536 < t.length) = false := decide_eq_false (by omega)
  have b : decide (1024 < (lnl t).length) = false := decide_eq_false (by omega)
  have c : (lnl t).any (fun l => decide (8192 < l.length)) = false := List.any_eq_false.2 fun l hl => by have := h3 l hl; simp; omega
  rw [a, b, c]; rfl
/-- what is read, of lines -/
def pE (ls : List By) : Int := if (cmds ls).isNone then 110 else 0
def pL (ls : List By) : List Cm := (cmds ls).getD []
theorem prs_of {t : By} (h : isLongF t = false) : prsE t = pE (lnl t) ∧ prsL t = pL (lnl t) := by
  unfold prsE prsL pE pL
  rw [h]
  exact ⟨rfl, rfl⟩
/-- the text, with a byte 10 at its end if it isn't empty -/
def enl (t : By) : By := if t = [] ∨ t.getLast? = some 10 then t else t ++ [10]
theorem lnl_end : ∀ (t : By), t ≠ [] → t.getLast? ≠ some 10 → lnl (t ++ [10]) = lnl t
  | [], h, _ => absurd rfl h
  | [c], _, h2 => by
    have hc : c ≠ 10 := fun e => h2 (by rw [e]; rfl)
    simp [lnl, hc]
  | c :: d :: r, _, h2 => by
    have h3 : (d :: r).getLast? ≠ some 10 := by
      rw [List.getLast?_cons_cons] at h2; exact h2
    have ih := lnl_end (d :: r) (by simp) h3
    rw [List.cons_append]
    conv => lhs; unfold lnl
    conv => rhs; unfold lnl
    rw [ih]
theorem enl_lines (t : By) : lnl (enl t) = lnl t := by
  unfold enl
  split
  · rfl
  · rename_i h
    exact lnl_end t (fun e => h (.inl e)) (fun e => h (.inr e))
theorem enl_len (t : By) : (enl t).length ≤ t.length + 1 := by
  unfold enl
  split <;> simp
theorem enl_flat {t : By} {ls : List By} {r : By} (h : enl t = flat ls ++ r) (hr : (10 : UInt8) ∉ r) : r = [] := by
  rcases List.eq_nil_or_concat r with e | ⟨a, c, e⟩
  · exact e
  · exfalso
    rw [List.concat_eq_append] at e
    have hl : (enl t).getLast? = some c := by rw [h, e, ← List.append_assoc, List.getLast?_append]; simp
    have hc : c ≠ 10 := fun q => hr (by rw [e, q]; simp)
    unfold enl at hl
    split at hl
    · rename_i q
      rcases q with q | q
      · rw [q] at hl; simp at hl
      · rw [q] at hl; injection hl with hl; exact hc hl.symm
    · rw [List.getLast?_append] at hl
      simp at hl
      exact hc hl.symm
theorem Few.ends {t : By} (h : Few t) : prsE (enl t) = prsE t ∧ prsL (enl t) = prsL t ∧ isLongF (enl t) = false ∧ isLongF t = false := by
  have e := enl_lines t
  have hl := enl_len t
  have a : isLongF t = false := notLongF (by have := h.len; omega) (by have := h.cnt; omega) (fun l hq => by have := h.ln l hq; omega)
  have b : isLongF (enl t) = false := notLongF (by have := h.len; omega) (by rw [e]; have := h.cnt; omega) (fun l hq => by rw [e] at hq; have := h.ln l hq; omega)
  rw [(prs_of a).1, (prs_of a).2, (prs_of b).1, (prs_of b).2, e]
  exact ⟨rfl, rfl, b, a⟩
/-- a line with two that say nothing ahead of it -/
abbrev rem3 (rk : By) (l : By) : By := 10 :: 35 :: (rk ++ 10 :: (l ++ [10]))
theorem rem_lines (rk : By) (hr : (10 : UInt8) ∉ rk) : ∀ ls : List By, (∀ l ∈ ls, (10 : UInt8) ∉ l) → lnl (ls.flatMap (rem3 rk)) = ls.flatMap (fun l => [[], 35 :: rk, l])
  | [], _ => rfl
  | l :: ls, h => by
    have ih := rem_lines rk hr ls (fun x hx => h x (by simp [hx]))
    rw [List.flatMap_cons, List.flatMap_cons]
    have e : rem3 rk l ++ ls.flatMap (rem3 rk) = [] ++ 10 :: ((35 :: rk) ++ 10 :: (l ++ 10 :: ls.flatMap (rem3 rk))) := by simp [rem3]
    rw [e, lnl_cons _ _ (by simp), lnl_cons _ _ (by
      intro q
      rcases List.mem_cons.1 q with q | q
      · revert q; decide
      · exact hr q), lnl_cons _ _ (h l (by simp)), ih]
    rfl
theorem rem_cmds (rk : By) : ∀ ls : List By, cmds (ls.flatMap (fun l => [[], 35 :: rk, l])) = cmds ls
  | [] => rfl
  | l :: ls => by
    have ih := rem_cmds rk ls
    rw [List.flatMap_cons]
    show cmds ([] :: (35 :: rk) :: l :: _) = _
    have s0 : ∀ xs, cmds ([] :: xs) = cmds xs := fun xs => by rw [cmds]; rfl
    have s1 : ∀ xs, cmds ((35 :: rk) :: xs) = cmds xs := fun xs => by
      rw [cmds]
      have : says0 (35 :: rk) = true := by simp [says0]
      rw [if_pos this]
    rw [s0, s1, cmds_cons, cmds_cons]
    show (if says0 l = true then cmds (ls.flatMap (fun l => [[], 35 :: rk, l])) else match plF l with
    | none => none
    | some c => (cmds (ls.flatMap (fun l => [[], 35 :: rk, l]))).map (c :: ·)) = _
    rw [ih]
theorem rem_len (rk : By) : ∀ ls : List By, (ls.flatMap (rem3 rk)).length = (flat ls).length + ls.length * (3 + rk.length)
  | [] => by simp [flat]
  | l :: ls => by
    have ih := rem_len rk ls
    unfold flat at ih ⊢
    rw [List.flatMap_cons, List.flatMap_cons, List.length_append, List.length_append, ih, show (l :: ls).length = ls.length + 1 from rfl, Nat.add_mul, Nat.one_mul]
    simp only [rem3, List.length_cons, List.length_append, List.length_nil]
    omega
/-- lines that say nothing, put ahead of every line -/
theorem Few.rem {t : By} (h : Few t) {ls : List By} (hf : enl t = flat ls) (h10 : ∀ l ∈ ls, (10 : UInt8) ∉ l) {rk : By} (hr : (10 : UInt8) ∉ rk) (hk : rk.length ≤ 20) : prsE (ls.flatMap (rem3 rk)) = prsE t ∧ prsL (ls.flatMap (rem3 rk)) = prsL t ∧ (ls.flatMap (rem3 rk)).length ≤ 40000 := by
  have e := enl_lines t
  have hl := enl_len t
  have e2 : lnl (enl t) = ls := by
    have := lnl_flat_append ls [] h10
    rw [List.append_nil] at this
    rw [hf, this]; simp [lnl]
  have e3 : lnl t = ls := by rw [← e, e2]
  have hc := h.cnt
  have hlen := h.len
  rw [e3] at hc
  have hx := rem_len rk ls
  rw [← hf] at hx
  have hm : ls.length * (3 + rk.length) ≤ 301 * 23 := Nat.mul_le_mul hc (by omega)
  have a : isLongF (ls.flatMap (rem3 rk)) = false := by
    refine notLongF (by rw [hx]; omega) ?_ ?_
    · rw [rem_lines rk hr ls h10]
      have : ∀ xs : List By, (xs.flatMap (fun l => [[], 35 :: rk, l])).length = 3 * xs.length := by
        intro xs
        induction xs with
        | nil => rfl
        | cons x xs ih => rw [List.flatMap_cons, List.length_append, ih, List.length_cons]; simp; omega
      rw [this]; omega
    · rw [rem_lines rk hr ls h10]
      intro l hq
      obtain ⟨x, hx1, hx2⟩ := List.mem_flatMap.1 hq
      simp at hx2
      rcases hx2 with rfl | rfl | rfl
      · simp
      · simp; omega
      · have := h.ln l (by rw [e3]; exact hx1)
        omega
  have hT := h.ends
  refine ⟨?_, ?_, by rw [hx]; omega⟩
  · rw [(prs_of a).1, (prs_of hT.2.2.2).1, rem_lines rk hr ls h10]
    unfold pE
    rw [rem_cmds, e3]
  · rw [(prs_of a).2, (prs_of hT.2.2.2).2, rem_lines rk hr ls h10]
    unfold pL
    rw [rem_cmds, e3]
/-- two texts, one behind the other -/
theorem Few.both {t u : By} (h : Few t) (hu : Few u) {ls : List By} (hf : enl t = flat ls) (h10 : ∀ l ∈ ls, (10 : UInt8) ∉ l) (h0 : prsE t = 0) (hu0 : prsE u = 0) : prsE (enl t ++ u) = 0 ∧ prsL (enl t ++ u) = prsL t ++ prsL u ∧ (enl t ++ u).length ≤ 60000 := by
  have e := enl_lines t
  have hl := enl_len t
  have e2 : lnl (enl t) = ls := by
    have := lnl_flat_append ls [] h10
    rw [List.append_nil] at this
    rw [hf, this]; simp [lnl]
  have e3 : lnl t = ls := by rw [← e, e2]
  have e4 : lnl (enl t ++ u) = lnl t ++ lnl u := by rw [hf, lnl_flat_append ls u h10, e3]
  have hc := h.cnt
  have hcu := hu.cnt
  have hlt := h.len
  have hlu := hu.len
  have a : isLongF (enl t ++ u) = false := by
    refine notLongF (by rw [List.length_append]; omega) (by rw [e4, List.length_append]; omega) (fun l hq => ?_)
    rw [e4] at hq
    rcases List.mem_append.1 hq with q | q
    · have := h.ln l q; omega
    · have := hu.ln l q; omega
  have hT := h.ends.2.2.2
  have hU := hu.ends.2.2.2
  rw [(prs_of hT).1] at h0
  rw [(prs_of hU).1] at hu0
  rw [(prs_of a).1, (prs_of a).2, (prs_of hT).2, (prs_of hU).2, e4]
  unfold pE at h0 hu0 ⊢
  unfold pL
  rw [cmds_append]
  cases h1 : cmds (lnl t) with
  | none => rw [h1] at h0; simp at h0
  | some x =>
    cases h2 : cmds (lnl u) with
    | none => rw [h2] at hu0; simp at hu0
    | some y => exact ⟨rfl, rfl, by rw [List.length_append]; omega⟩
/-- the walk's own loop: lines so far, and the one under way -/
structure Lw (t : By) (rk : By) (i f : Nat) (x : By) (ls : List By) : Prop where
  cut : t.take f = flat ls
  no : ∀ l ∈ ls, (10 : UInt8) ∉ l
  x : x = ls.flatMap (rem3 rk)
  le : f ≤ i
  lt : i ≤ t.length
  now : (10 : UInt8) ∉ (t.drop f).take (i - f)
theorem Lw.start (t rk : By) : Lw t rk 0 0 [] [] := by
  refine ⟨?_, ?_, rfl, Nat.le_refl _, Nat.zero_le _, ?_⟩
  · simp [flat]
  · intro l hl; cases hl
  · simp
theorem Lw.other {t rk : By} {i f : Nat} {x : By} {ls : List By} (h : Lw t rk i f x ls) (hi : i < t.length) (hc : t[i]'hi ≠ 10) : Lw t rk (i + 1) f x ls := by
  refine ⟨h.cut, h.no, h.x, by have := h.le; omega, hi, ?_⟩
  have hle := h.le
  have e : i + 1 - f = (i - f) + 1 := by omega
  rw [e, List.take_add_one]
  have e2 : (t.drop f)[i - f]? = some (t[i]'hi) := by rw [List.getElem?_drop, show f + (i - f) = i by omega, List.getElem?_eq_getElem hi]
  rw [e2]
  intro q
  rcases List.mem_append.1 q with q | q
  · exact h.now q
  · simp at q; exact hc q.symm
theorem Lw.line {t rk : By} {i f : Nat} {x : By} {ls : List By} (h : Lw t rk i f x ls) (hi : i < t.length) (hc : t[i]'hi = 10) : Lw t rk (i + 1) (i + 1) (x ++ rem3 rk ((t.drop f).take (i - f))) (ls ++ [(t.drop f).take (i - f)]) := by
  have hle := h.le
  refine ⟨?_, ?_, ?_, Nat.le_refl _, hi, by simp⟩
  · have e : t.take (i + 1) = t.take f ++ ((t.drop f).take (i - f) ++ [10]) := by
      have e1 : i + 1 = f + (i - f + 1) := by omega
      rw [e1, List.take_add, List.take_add_one]
      have e2 : (t.drop f)[i - f]? = some (t[i]'hi) := by rw [List.getElem?_drop, show f + (i - f) = i by omega, List.getElem?_eq_getElem hi]
      rw [e2, hc]; rfl
    rw [e, h.cut]
    simp [flat]
  · intro l hl
    rcases List.mem_append.1 hl with q | q
    · exact h.no l q
    · rw [List.mem_singleton.1 q]; exact h.now
  · rw [h.x, List.flatMap_append]; simp
theorem Lw.last {t rk : By} {f : Nat} {x : By} {ls : List By} {t0 : By} (ht : t = enl t0) (h : Lw t rk t.length f x ls) : t = flat ls := by
  have hle := h.le
  have e : t = flat ls ++ t.drop f := by rw [← h.cut, List.take_append_drop]
  have hn := h.now
  rw [List.take_of_length_le (by rw [List.length_drop]; omega)] at hn
  have := enl_flat (t := t0) (ls := ls) (r := t.drop f) (by rw [← ht]; exact e) hn
  rw [this, List.append_nil] at e
  exact e
end Go.Proofs.YtiifkcnpdihlmaaDoor
