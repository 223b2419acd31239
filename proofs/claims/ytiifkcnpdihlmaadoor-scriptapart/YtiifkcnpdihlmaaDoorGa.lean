import Derived.Test.YtiifkcnpdihlmaaDoorXp
/- Layer 22 without the model: what ScriptLines asks. -/
namespace Go.Proofs.YtiifkcnpdihlmaaDoor
set_option maxRecDepth 100000
set_option linter.unusedVariables false
set_option linter.unusedSimpArgs false
/-- no line is longer than 8000 bytes -/
def fewF : Nat → By → Bool
  | _, [] => true
  | b, c :: r => if c = 10 then fewF 0 r else if 8000 < b + 1 then false else fewF (b + 1) r
theorem few_lines : ∀ (r : By) (b : Nat), fewF b r = true → b ≤ 8000 → ((lnl r).headD []).length + b ≤ 8000 ∧ ∀ l ∈ (lnl r).tail, l.length ≤ 8000
  | [], b, _, hb => by simp [lnl]; exact hb
  | c :: r, b, h, hb => by
    unfold fewF at h
    by_cases hc : c = 10
    · rw [if_pos hc] at h
      obtain ⟨h1, h2⟩ := few_lines r 0 h (by decide)
      unfold lnl
      rw [if_pos hc]
      refine ⟨by simpa using hb, fun l hl => ?_⟩
      simp only [List.tail_cons] at hl
      cases hr : lnl r with
      | nil => rw [hr] at hl; cases hl
      | cons x xs =>
        rw [hr] at hl h1 h2
        rcases List.mem_cons.1 hl with rfl | q
        · simpa using h1
        · exact h2 l q
    · rw [if_neg hc] at h
      by_cases h8 : 8000 < b + 1
      · rw [if_pos h8] at h; cases h
      · rw [if_neg h8] at h
        obtain ⟨h1, h2⟩ := few_lines r (b + 1) h (by omega)
        unfold lnl
        rw [if_neg hc]
        cases hr : lnl r with
        | nil => simp; omega
        | cons x xs =>
          rw [hr] at h1 h2
          simp only [List.headD_cons, List.tail_cons, List.length_cons] at h1 h2 ⊢
          exact ⟨by omega, h2⟩
theorem few_all {t : By} (h : fewF 0 t = true) : ∀ l ∈ lnl t, l.length ≤ 8000 := by
  obtain ⟨h1, h2⟩ := few_lines t 0 h (by decide)
  intro l hl
  cases hr : lnl t with
  | nil => rw [hr] at hl; cases hl
  | cons x xs =>
    rw [hr] at hl h1 h2
    rcases List.mem_cons.1 hl with rfl | q
    · simpa using h1
    · exact h2 l q
theorem lnl_count : ∀ t : By, (lnl t).length ≤ t.count 10 + 1
  | [] => by simp [lnl]
  | c :: r => by
    have ih := lnl_count r
    unfold lnl
    by_cases hc : c = 10
    · subst hc
      rw [if_pos rfl, List.length_cons, List.count_cons_self]; omega
    · rw [if_neg hc, List.count_cons_of_ne hc]
      cases hr : lnl r with
      | nil => simp
      | cons x xs => rw [hr] at ih; simpa using ih
/-- lines laid one behind the other -/
abbrev flat (ls : List By) : By := ls.flatMap (· ++ [10])
theorem lnl_flat_append : ∀ (ls : List By) (r : By), (∀ l ∈ ls, (10 : UInt8) ∉ l) → lnl (flat ls ++ r) = ls ++ lnl r
  | [], r, _ => rfl
  | l :: ls, r, h => by
    have ih := lnl_flat_append ls r (fun x hx => h x (by simp [hx]))
    unfold flat at ih ⊢
    rw [List.flatMap_cons, List.append_assoc, List.append_assoc, List.singleton_append, lnl_cons _ _ (h l (by simp)), ih]
    rfl
theorem cmds_cons (l : By) (ls : List By) : cmds (l :: ls) = if says0 l = true then cmds ls else match plF l with
    | none => none
    | some c => (cmds ls).map (c :: ·) := by
  rw [cmds]
  rfl
theorem cmds_append : ∀ (a b : List By), cmds (a ++ b) = (cmds a).bind fun x => (cmds b).map (x ++ ·)
  | [], b => by cases h : cmds b <;> simp [cmds, h]
  | l :: a, b => by
    have ih := cmds_append a b
    rw [List.cons_append, cmds_cons, cmds_cons]
    split
    · exact ih
    · cases plF l with
      | none => rfl
      | some c =>
        simp only
        rw [ih]
        cases cmds a with
        | none => rfl
        | some x => cases cmds b <;> rfl
/-- a text whose limits are far -/
structure Few (t : By) : Prop where
  len : t.length ≤ 25000
  cnt : (lnl t).length ≤ 301
  ln : ∀ l ∈ lnl t, l.length ≤ 8000
theorem notLongF {t : By} (h1 : t.length ≤ 65536) (h2 : (lnl t).length ≤ 1024) (h3 : ∀ l ∈ lnl t, l.length ≤ 8192) : isLongF t = false := by
  unfold isLongF
  have a : decide (65536 < t.length) = false := decide_eq_false (by omega)
  have b : decide (1024 < (lnl t).length) = false := decide_eq_false (by omega)
  have c : (lnl t).any (fun l => decide (8192 < l.length)) = false := List.any_eq_false.2 fun l hl => by have := h3 l hl; simp; omega
  rw [a, b, c]; rfl
/-- what is read, of lines -/
def pE (ls : List By) : Int := if (cmds ls).isNone then 110 else 0
def pL (ls : List By) : List Cm := (cmds ls).getD []
theorem prs_of {t : By} (h : isLongF t = false) : prsE t = pE (lnl t) ∧ prsL t = pL (lnl t) := by
  unfold prsE prsL pE pL
  rw [h]
  exact ⟨rfl, rfl⟩
/-- the text, with a byte 10 at its end if it isn't empty -/
def enl (t : By) : By := if t = [] ∨ t.getLast? = some 10 then t else t ++ [10]
theorem lnl_end : ∀ (t : By), t ≠ [] → t.getLast? ≠ some 10 → lnl (t ++ [10]) = lnl t
  | [], h, _ => absurd rfl h
  | [c], _, h2 => by
    have hc : c ≠ 10 := fun e => h2 (by rw [e]; rfl)
    simp [lnl, hc]
  | c :: d :: r, _, h2 => by
    have h3 : (d :: r).getLast? ≠ some 10 := by
      rw [List.getLast?_cons_cons] at h2; exact h2
    have ih := lnl_end (d :: r) (by simp) h3
    rw [List.cons_append]
    conv => lhs; unfold lnl
    conv => rhs; unfold lnl
    rw [ih]
theorem enl_lines (t : By) : lnl (enl t) = lnl t := by
  unfold enl
  split
  · rfl
  · rename_i h
    exact lnl_end t (fun e => h (.inl e)) (fun e => h (.inr e))
theorem enl_len (t : By) : (enl t).length ≤ t.length + 1 := by
  unfold enl
  split <;> simp
theorem enl_flat {t : By} {ls : List By} {r : By} (h : enl t = flat ls ++ r) (hr : (10 : UInt8) ∉ r) : r = [] := by
  rcases List.eq_nil_or_concat r with e | ⟨a, c, e⟩
  · exact e
  · exfalso
    rw [List.concat_eq_append] at e
    have hl : (enl t).getLast? = some c := by rw [h, e, ← List.append_assoc, List.getLast?_append]; simp
    have hc : c ≠ 10 := fun q => hr (by rw [e, q]; simp)
    unfold enl at hl
    split at hl
    · rename_i q
      rcases q with q | q
      · rw [q] at hl; simp at hl
      · rw [q] at hl; injection hl with hl; exact hc hl.symm
    · rw [List.getLast?_append] at hl
      simp at hl
      exact hc hl.symm
theorem Few.ends {t : By} (h : Few t) : prsE (enl t) = prsE t ∧ prsL (enl t) = prsL t ∧ isLongF (enl t) = false ∧ isLongF t = false := by
  have e := enl_lines t
  have hl := enl_len t
  have a : isLongF t = false := notLongF (by have := h.len; omega) (by have := h.cnt; omega) (fun l hq => by have := h.ln l hq; omega)
  have b : isLongF (enl t) = false := notLongF (by have := h.len; omega) (by rw [e]; have := h.cnt; omega) (fun l hq => by rw [e] at hq; have := h.ln l hq; omega)
  rw [(prs_of a).1, (prs_of a).2, (prs_of b).1, (prs_of b).2, e]
  exact ⟨rfl, rfl, b, a⟩
/-- a line with two that say nothing ahead of it -/
abbrev rem3 (rk : By) (l : By) : By := 10 :: 35 :: (rk ++ 10 :: (l ++ [10]))
theorem rem_lines (rk : By) (hr : (10 : UInt8) ∉ rk) : ∀ ls : List By, (∀ l ∈ ls, (10 : UInt8) ∉ l) → lnl (ls.flatMap (rem3 rk)) = ls.flatMap (fun l => [[], 35 :: rk, l])
  | [], _ => rfl
  | l :: ls, h => by
    have ih := rem_lines rk hr ls (fun x hx => h x (by simp [hx]))
    rw [List.flatMap_cons, List.flatMap_cons]
    have e : rem3 rk l ++ ls.flatMap (rem3 rk) = [] ++ 10 :: ((35 :: rk) ++ 10 :: (l ++ 10 :: ls.flatMap (rem3 rk))) := by simp [rem3]
    rw [e, lnl_cons _ _ (by simp), lnl_cons _ _ (by
      intro q
      rcases List.mem_cons.1 q with q | q
      · revert q; decide
      · exact hr q), lnl_cons _ _ (h l (by simp)), ih]
    rfl
theorem rem_cmds (rk : By) : ∀ ls : List By, cmds (ls.flatMap (fun l => [[], 35 :: rk, l])) = cmds ls
  | [] => rfl
  | l :: ls => by
    have ih := rem_cmds rk ls
    rw [List.flatMap_cons]
    show cmds ([] :: (35 :: rk) :: l :: _) = _
    have s0 : ∀ xs, cmds ([] :: xs) = cmds xs := fun xs => by rw [cmds]; rfl
    have s1 : ∀ xs, cmds ((35 :: rk) :: xs) = cmds xs := fun xs => by
      rw [cmds]
      have : says0 (35 :: rk) = true := by simp [says0]
      rw [if_pos this]
    rw [s0, s1, cmds_cons, cmds_cons]
    show (if says0 l = true then cmds (ls.flatMap (fun l => [[], 35 :: rk, l])) else match plF l with
    | none => none
    | some c => (cmds (ls.flatMap (fun l => [[], 35 :: rk, l]))).map (c :: ·)) = _
    rw [ih]
theorem rem_len (rk : By) : ∀ ls : List By, (ls.flatMap (rem3 rk)).length = (flat ls).length + ls.length * (3 + rk.length)
  | [] => by simp [flat]
  | l :: ls => by
    have ih := rem_len rk ls
    unfold flat at ih ⊢
    rw [List.flatMap_cons, List.flatMap_cons, List.length_append, List.length_append, ih, show (l :: ls).length = ls.length + 1 from rfl, Nat.add_mul, Nat.one_mul]
    simp only [rem3, List.length_cons, List.length_append, List.length_nil]
    omega
/-- lines that say nothing, put ahead of every line -/
theorem Few.rem {t : By} (h : Few t) {ls : List By} (hf : enl t = flat ls) (h10 : ∀ l ∈ ls, (10 : UInt8) ∉ l) {rk : By} (hr : (10 : UInt8) ∉ rk) (hk : rk.length ≤ 20) : prsE (ls.flatMap (rem3 rk)) = prsE t ∧ prsL (ls.flatMap (rem3 rk)) = prsL t ∧ (ls.flatMap (rem3 rk)).length ≤ 40000 := by
  have e := enl_lines t
  have hl := enl_len t
  have e2 : lnl (enl t) = ls := by
    have := lnl_flat_append ls [] h10
    rw [List.append_nil] at this
    rw [hf, this]; simp [lnl]
  have e3 : lnl t = ls := by rw [← e, e2]
  have hc := h.cnt
  have hlen := h.len
  rw [e3] at hc
  have hx := rem_len rk ls
  rw [← hf] at hx
  have hm : ls.length * (3 + rk.length) ≤ 301 * 23 := Nat.mul_le_mul hc (by omega)
  have a : isLongF (ls.flatMap (rem3 rk)) = false := by
    refine notLongF (by rw [hx]; omega) ?_ ?_
    · rw [rem_lines rk hr ls h10]
      have : ∀ xs : List By, (xs.flatMap (fun l => [[], 35 :: rk, l])).length = 3 * xs.length := by
        intro xs
        induction xs with
        | nil => rfl
        | cons x xs ih => rw [List.flatMap_cons, List.length_append, ih, List.length_cons]; simp; omega
      rw [this]; omega
    · rw [rem_lines rk hr ls h10]
      intro l hq
      obtain ⟨x, hx1, hx2⟩ := List.mem_flatMap.1 hq
      simp at hx2
      rcases hx2 with rfl | rfl | rfl
      · simp
      · simp; omega
      · have := h.ln l (by rw [e3]; exact hx1)
        omega
  have hT := h.ends
  refine ⟨?_, ?_, by rw [hx]; omega⟩
  · rw [(prs_of a).1, (prs_of hT.2.2.2).1, rem_lines rk hr ls h10]
    unfold pE
    rw [rem_cmds, e3]
  · rw [(prs_of a).2, (prs_of hT.2.2.2).2, rem_lines rk hr ls h10]
    unfold pL
    rw [rem_cmds, e3]
/-- two texts, one behind the other -/
theorem Few.both {t u : By} (h : Few t) (hu : Few u) {ls : List By} (hf : enl t = flat ls) (h10 : ∀ l ∈ ls, (10 : UInt8) ∉ l) (h0 : prsE t = 0) (hu0 : prsE u = 0) : prsE (enl t ++ u) = 0 ∧ prsL (enl t ++ u) = prsL t ++ prsL u ∧ (enl t ++ u).length ≤ 60000 := by
  have e := enl_lines t
  have hl := enl_len t
  have e2 : lnl (enl t) = ls := by
    have := lnl_flat_append ls [] h10
    rw [List.append_nil] at this
    rw [hf, this]; simp [lnl]
  have e3 : lnl t = ls := by rw [← e, e2]
  have e4 : lnl (enl t ++ u) = lnl t ++ lnl u := by rw [hf, lnl_flat_append ls u h10, e3]
  have hc := h.cnt
  have hcu := hu.cnt
  have hlt := h.len
  have hlu := hu.len
  have a : isLongF (enl t ++ u) = false := by
    refine notLongF (by rw [List.length_append]; omega) (by rw [e4, List.length_append]; omega) (fun l hq => ?_)
    rw [e4] at hq
    rcases List.mem_append.1 hq with q | q
    · have := h.ln l q; omega
    · have := hu.ln l q; omega
  have hT := h.ends.2.2.2
  have hU := hu.ends.2.2.2
  rw [(prs_of hT).1] at h0
  rw [(prs_of hU).1] at hu0
  rw [(prs_of a).1, (prs_of a).2, (prs_of hT).2, (prs_of hU).2, e4]
  unfold pE at h0 hu0 ⊢
  unfold pL
  rw [cmds_append]
  cases h1 : cmds (lnl t) with
  | none => rw [h1] at h0; simp at h0
  | some x =>
    cases h2 : cmds (lnl u) with
    | none => rw [h2] at hu0; simp at hu0
    | some y => exact ⟨rfl, rfl, by rw [List.length_append]; omega⟩
/-- the walk's own loop: lines so far, and the one under way -/
structure Lw (t : By) (rk : By) (i f : Nat) (x : By) (ls : List By) : Prop where
  cut : t.take f = flat ls
  no : ∀ l ∈ ls, (10 : UInt8) ∉ l
  x : x = ls.flatMap (rem3 rk)
  le : f ≤ i
  lt : i ≤ t.length
  now : (10 : UInt8) ∉ (t.drop f).take (i - f)
theorem Lw.start (t rk : By) : Lw t rk 0 0 [] [] := by
  refine ⟨?_, ?_, rfl, Nat.le_refl _, Nat.zero_le _, ?_⟩
  · simp [flat]
  · intro l hl; cases hl
  · simp
theorem Lw.other {t rk : By} {i f : Nat} {x : By} {ls : List By} (h : Lw t rk i f x ls) (hi : i < t.length) (hc : t[i]'hi ≠ 10) : Lw t rk (i + 1) f x ls := by
  refine ⟨h.cut, h.no, h.x, by have := h.le; omega, hi, ?_⟩
  have hle := h.le
  have e : i + 1 - f = (i - f) + 1 := by omega
  rw [e, List.take_add_one]
  have e2 : (t.drop f)[i - f]? = some (t[i]'hi) := by rw [List.getElem?_drop, show f + (i - f) = i by omega, List.getElem?_eq_getElem hi]
  rw [e2]
  intro q
  rcases List.mem_append.1 q with q | q
  · exact h.now q
  · simp at q; exact hc q.symm
theorem Lw.line {t rk : By} {i f : Nat} {x : By} {ls : List By} (h : Lw t rk i f x ls) (hi : i < t.length) (hc : t[i]'hi = 10) : Lw t rk (i + 1) (i + 1) (x ++ rem3 rk ((t.drop f).take (i - f))) (ls ++ [(t.drop f).take (i - f)]) := by
  have hle := h.le
  refine ⟨?_, ?_, ?_, Nat.le_refl _, hi, by simp⟩
  · have e : t.take (i + 1) = t.take f ++ ((t.drop f).take (i - f) ++ [10]) := by
      have e1 : i + 1 = f + (i - f + 1) := by omega
      rw [e1, List.take_add, List.take_add_one]
      have e2 : (t.drop f)[i - f]? = some (t[i]'hi) := by rw [List.getElem?_drop, show f + (i - f) = i by omega, List.getElem?_eq_getElem hi]
      rw [e2, hc]; rfl
    rw [e, h.cut]
    simp [flat]
  · intro l hl
    rcases List.mem_append.1 hl with q | q
    · exact h.no l q
    · rw [List.mem_singleton.1 q]; exact h.now
  · rw [h.x, List.flatMap_append]; simp
theorem Lw.last {t rk : By} {f : Nat} {x : By} {ls : List By} {t0 : By} (ht : t = enl t0) (h : Lw t rk t.length f x ls) : t = flat ls := by
  have hle := h.le
  have e : t = flat ls ++ t.drop f := by rw [← h.cut, List.take_append_drop]
  have hn := h.now
  rw [List.take_of_length_le (by rw [List.length_drop]; omega)] at hn
  have := enl_flat (t := t0) (ls := ls) (r := t.drop f) (by rw [← ht]; exact e) hn
  rw [this, List.append_nil] at e
  exact e
end Go.Proofs.YtiifkcnpdihlmaaDoor

/- Layer 22 without the model: what is read is small, in range, and cleared. -/
namespace Go.Proofs.YtiifkcnpdihlmaaDoor
set_option maxRecDepth 100000
set_option linter.unusedVariables false
set_option linter.unusedSimpArgs false
theorem wdsFsmall : ∀ (n : Nat) (l : By), l.length ≤ n → (wdsF n l).length ≤ l.length + 1 ∧ ∀ w ∈ wdsF n l, w.length ≤ l.length
  | 0, l, h => by simp [wdsF]
  | n + 1, l, h => by
    unfold wdsF
    split
    · simp
    · rename_i hne
      have hle := wsz_le' false l
      have hd : (l.drop (wsz false l + 1)).length = l.length - (wsz false l + 1) := List.length_drop
      obtain ⟨h1, h2⟩ := wdsFsmall n (l.drop (wsz false l + 1)) (by rw [hd]; omega)
      refine ⟨?_, fun w hw => ?_⟩
      · rw [List.length_cons]; omega
      · rcases List.mem_cons.1 hw with q | q
        · rw [q, List.length_take]; omega
        · have := h2 w q; omega
theorem wds_sm9 (l : By) : (wds l).length ≤ l.length + 1 ∧ ∀ w ∈ wds l, w.length ≤ l.length := wdsFsmall _ l (Nat.le_refl _)
theorem dec_len : ∀ (n : Nat) (r s : By), r.length ≤ n → decF r = some s → s.length ≤ r.length
  | _, [], s, _, h => by simp [decF] at h; subst h; simp
  | 0, _ :: _, _, h, _ => by simp at h
  | n + 1, c :: r, s, hl, h => by
    unfold decF at h
    split at h
    · cases h
    · split at h
      · cases hq : decF r with
        | none => rw [hq] at h; cases h
        | some s1 =>
          rw [hq] at h
          injection h with h
          subst h
          have := dec_len n r s1 (by simp at hl; omega) hq
          simp; omega
      · cases r with
        | nil => cases h
        | cons d r1 =>
          simp only at h
          split at h
          · cases hq : decF r1 with
            | none => rw [hq] at h; cases h
            | some s1 =>
              rw [hq] at h
              injection h with h
              subst h
              have := dec_len n r1 s1 (by simp at hl; omega) hq
              simp; omega
          · match r1, h, hl with
            | [], h, hl => cases h
            | [_], h, hl => cases h
            | a :: b :: r2, h, hl =>
              simp only at h
              split at h
              · cases hq : decF r2 with
                | none => rw [hq] at h; cases h
                | some s1 =>
                  rw [hq] at h
                  injection h with h
                  subst h
                  have := dec_len n r2 s1 (by simp at hl; omega) hq
                  simp; omega
              · cases h
theorem txt_len {w s : By} (h : txtO w = some s) : s.length ≤ w.length := by
  unfold txtO at h
  split at h
  · have := dec_len _ _ s (Nat.le_refl _) h
    rw [List.length_dropLast, List.length_drop] at this
    omega
  · cases h
theorem txt_getD {M : Nat} {w : By} (h : w.length ≤ M) : ((txtO w).getD []).length ≤ M := by
  cases hq : txtO w with
  | none => simp
  | some s => have := txt_len hq; simp; omega
theorem num_getD (w : By) : In64 ((numO w).getD 0) := by
  cases hq : numO w with
  | none => exact ⟨by simp, by simp⟩
  | some n => exact (numO_some hq).2
theorem nxt_len {M : Nat} {ws : List By} (h : ∀ w ∈ ws, w.length ≤ M) : (nxtW ws).length ≤ M := by
  cases ws with
  | nil => simp [nxtW]
  | cons w ws => exact h w (by simp)
theorem mets_small {M : Nat} : ∀ (ws : List By) (b : Bool), (∀ w ∈ ws, w.length ≤ M) → (mets ws b).1.length ≤ ws.length ∧ ∀ e ∈ (mets ws b).1, e.key.length ≤ M ∧ e.val.length ≤ M
  | [], b, _ => by simp [mets]
  | [a], b, h => by
    simp only [mets]
    refine ⟨by simp, fun e he => ?_⟩
    rw [List.mem_singleton.1 he]
    exact ⟨txt_getD (h a (by simp)), by simp⟩
  | a :: c :: r, b, h => by
    obtain ⟨h1, h2⟩ := mets_small r (b || (txtO a).isNone || (txtO c).isNone) (fun w hw => h w (by simp [hw]))
    simp only [mets]
    refine ⟨by simp; omega, fun e he => ?_⟩
    rcases List.mem_cons.1 he with q | q
    · rw [q]; exact ⟨txt_getD (h a (by simp)), txt_getD (h c (by simp))⟩
    · exact h2 e q
theorem kpts_small : ∀ (ws : List By) (b : Bool), (kpts ws b).1.length ≤ ws.length ∧ ∀ n ∈ (kpts ws b).1, In64 n
  | [], b => by simp [kpts]
  | a :: r, b => by
    obtain ⟨h1, h2⟩ := kpts_small r (b || (numO a).isNone)
    simp only [kpts]
    refine ⟨by simp; omega, fun n hn => ?_⟩
    rcases List.mem_cons.1 hn with q | q
    · rw [q]; exact num_getD a
    · exact h2 n q
/-- what holds while a line's parts are taken -/
structure RI (M : Nat) (x : Cm × Rr) : Prop where
  ok : OkC x.1
  b : x.1.bucket.length ≤ M
  sb : x.1.st.bucket.length ≤ M
  sk : x.1.st.key.length ≤ M
  sd : x.1.st.data.length ≤ M
  me : ∀ e ∈ x.1.st.mt, e.key.length ≤ M ∧ e.val.length ≤ M
  ml : x.1.st.mt.length + x.2.1.length ≤ M
  kl : x.1.st.kept.length + x.2.1.length ≤ M
  ws : ∀ w ∈ x.2.1, w.length ≤ M
theorem tail_mem {α : Type} {l : List α} {x : α} (h : x ∈ l.tail) : x ∈ l := List.mem_of_mem_tail h
theorem RI.step {M : Nat} {x : Cm × Rr} (h : RI M x) (p : UInt8) : RI M (rdp x p) := by
  obtain ⟨c, r⟩ := x
  have hn : In64 (rnum r).1 := num_getD _
  have ht : (rtxt r).1.length ≤ M := txt_getD (nxt_len h.ws)
  have e1 : (rnum r).2.1 = r.1.tail := rfl
  have e2 : (rtxt r).2.1 = r.1.tail := rfl
  have hl : r.1.tail.length ≤ r.1.length := by rw [List.length_tail]; omega
  have hw : ∀ w ∈ r.1.tail, w.length ≤ M := fun w q => h.ws w (tail_mem q)
  have hml := h.ml
  have hkl := h.kl
  simp only at hml hkl
  have gm : c.st.mt.length + r.1.tail.length ≤ M := by omega
  have gk : c.st.kept.length + r.1.tail.length ≤ M := by omega
  have hm := mets_small r.1 r.2 h.ws
  have hk := kpts_small r.1 r.2
  unfold rdp
  simp only
  repeat' split
  · exact ⟨⟨h.ok.k, hn, h.ok.b, h.ok.sk, h.ok.q, h.ok.n, h.ok.kp⟩, h.b, h.sb, h.sk, h.sd, h.me, gm, gk, hw⟩
  · exact ⟨⟨h.ok.k, h.ok.a, hn, h.ok.sk, h.ok.q, h.ok.n, h.ok.kp⟩, h.b, h.sb, h.sk, h.sd, h.me, gm, gk, hw⟩
  · exact ⟨⟨h.ok.k, h.ok.a, h.ok.b, h.ok.sk, h.ok.q, h.ok.n, h.ok.kp⟩, ht, h.sb, h.sk, h.sd, h.me, gm, gk, hw⟩
  · exact ⟨⟨h.ok.k, h.ok.a, h.ok.b, h.ok.sk, h.ok.q, h.ok.n, h.ok.kp⟩, h.b, ht, h.sk, h.sd, h.me, gm, gk, hw⟩
  · exact ⟨⟨h.ok.k, h.ok.a, h.ok.b, h.ok.sk, h.ok.q, h.ok.n, h.ok.kp⟩, h.b, h.sb, ht, h.sd, h.me, gm, gk, hw⟩
  · exact ⟨⟨h.ok.k, h.ok.a, h.ok.b, h.ok.sk, h.ok.q, h.ok.n, h.ok.kp⟩, h.b, h.sb, h.sk, ht, h.me, gm, gk, hw⟩
  · exact ⟨⟨h.ok.k, h.ok.a, h.ok.b, h.ok.sk, hn, h.ok.n, h.ok.kp⟩, h.b, h.sb, h.sk, h.sd, h.me, gm, gk, hw⟩
  · exact ⟨⟨h.ok.k, h.ok.a, h.ok.b, h.ok.sk, h.ok.q, hn, h.ok.kp⟩, h.b, h.sb, h.sk, h.sd, h.me, gm, gk, hw⟩
  · refine ⟨⟨h.ok.k, h.ok.a, h.ok.b, h.ok.sk, h.ok.q, h.ok.n, h.ok.kp⟩, h.b, h.sb, h.sk, h.sd, fun e he => ?_, ?_, ?_, fun w q => by cases q⟩
    · rcases List.mem_append.1 he with q | q
      · exact h.me e q
      · exact hm.2 e q
    · show (c.st.mt ++ (mets r.1 r.2).1).length + 0 ≤ M
      rw [List.length_append]; omega
    · show c.st.kept.length + 0 ≤ M
      omega
  · refine ⟨⟨h.ok.k, h.ok.a, h.ok.b, h.ok.sk, h.ok.q, h.ok.n, fun n hn => ?_⟩, h.b, h.sb, h.sk, h.sd, h.me, ?_, ?_, fun w q => by cases q⟩
    · rcases List.mem_append.1 hn with q | q
      · exact h.ok.kp n q
      · exact hk.2 n q
    · show c.st.mt.length + 0 ≤ M
      omega
    · show (c.st.kept ++ (kpts r.1 r.2).1).length + 0 ≤ M
      rw [List.length_append]; omega
  · exact h
theorem RI.all {M : Nat} : ∀ (ps : By) {x : Cm × Rr}, RI M x → RI M (ps.foldl rdp x)
  | [], _, h => h
  | p :: ps, _, h => by rw [List.foldl_cons]; exact RI.all ps (h.step p)
theorem shps_in64 : ∀ s ∈ shps, (0 ≤ s.kind ∧ s.kind ≤ 100) ∧ (0 ≤ s.step ∧ s.step ≤ 100) := by decide +kernel
/-- a command that was read: it is what its kind names, and small -/
structure Rd1 (c : Cm) : Prop where
  sh : shpOf c ≠ none
  cl : clr (shD c) c = c
  ok : OkC c
  b : c.bucket.length ≤ 9000
  sb : c.st.bucket.length ≤ 9000
  sk : c.st.key.length ≤ 9000
  sd : c.st.data.length ≤ 9000
  me : ∀ e ∈ c.st.mt, e.key.length ≤ 9000 ∧ e.val.length ≤ 9000
  ml : c.st.mt.length ≤ 9000
  kl : c.st.kept.length ≤ 9000
theorem rd_shape : ∀ s ∈ shps, ∀ ws : List By, shpOf (rdAll s ws).1 = some s ∧ clr s (rdAll s ws).1 = (rdAll s ws).1 := by
  intro s hs ws
  simp only [shps, List.mem_cons, List.not_mem_nil, or_false] at hs
  rcases hs with rfl | rfl | rfl | rfl | rfl | rfl | rfl | rfl | rfl | rfl | rfl | rfl | rfl | rfl | rfl | rfl | rfl | rfl | rfl | rfl | rfl | rfl <;> exact ⟨rfl, rfl⟩
theorem pl_rd {line : By} {c : Cm} (hl : line.length ≤ 8192) (h : plF line = some c) : Rd1 c := by
  unfold plF at h
  split at h
  · cases h
  · rename_i s hs
    split at h
    · cases h
    · injection h with h
      subst h
      have hm : s ∈ shps := List.mem_of_find?_eq_some hs
      obtain ⟨e1, e2⟩ := rd_shape s hm (wds line).tail
      have hw := wds_sm9 line
      have h64 := shps_in64 s hm
      have z : In64 0 := ⟨by decide, by decide⟩
      have h0 : RI 9000 (cm0 s.kind s.step, ((wds line).tail, false)) := by
        refine ⟨⟨⟨by show _ ≤ s.kind; omega, by show s.kind ≤ _; omega⟩, z, z, ⟨by show _ ≤ s.step; omega, by show s.step ≤ _; omega⟩, z, z, fun x hx => by cases hx⟩, by simp [cm0], by simp [cm0, sp0], by simp [cm0, sp0], by simp [cm0, sp0], (fun e he => by cases he), ?_, ?_, fun w q => ?_⟩
        · show 0 + (wds line).tail.length ≤ 9000
          rw [List.length_tail]; omega
        · show 0 + (wds line).tail.length ≤ 9000
          rw [List.length_tail]; omega
        · have := hw.2 w (tail_mem q); omega
      have h1 : RI 9000 (rdAll s (wds line).tail) := RI.all s.parts h0
      generalize rdAll s (wds line).tail = x at *
      have es : shD x.1 = s := by unfold shD; rw [e1]; rfl
      exact ⟨by rw [e1]; simp, by rw [es]; exact e2, h1.ok, h1.b, h1.sb, h1.sk, h1.sd, h1.me, by have := h1.ml; omega, by have := h1.kl; omega⟩
theorem cmds_rd : ∀ (ls : List By) (L : List Cm), (∀ l ∈ ls, l.length ≤ 8192) → cmds ls = some L → L.length ≤ ls.length ∧ ∀ c ∈ L, Rd1 c
  | [], L, _, h => by simp [cmds] at h; subst h; simp
  | l :: ls, L, hl, h => by
    rw [cmds_cons] at h
    split at h
    · obtain ⟨h1, h2⟩ := cmds_rd ls L (fun x hx => hl x (by simp [hx])) h
      exact ⟨by simp; omega, h2⟩
    · cases hp : plF l with
      | none => rw [hp] at h; cases h
      | some c =>
        rw [hp] at h
        simp only at h
        cases hc : cmds ls with
        | none => rw [hc] at h; cases h
        | some L1 =>
          rw [hc] at h
          injection h with h
          subst h
          obtain ⟨h1, h2⟩ := cmds_rd ls L1 (fun x hx => hl x (by simp [hx])) hc
          refine ⟨by simp; omega, fun x hx => ?_⟩
          rcases List.mem_cons.1 hx with q | q
          · rw [q]; exact pl_rd (hl l (by simp)) hp
          · exact h2 x q
theorem long_no {t : By} (h : isLongF t = false) : t.length ≤ 65536 ∧ (lnl t).length ≤ 1024 ∧ ∀ l ∈ lnl t, l.length ≤ 8192 := by
  unfold isLongF at h
  simp only [Bool.or_eq_false_iff, decide_eq_false_iff_not] at h
  obtain ⟨⟨h1, h2⟩, h3⟩ := h
  refine ⟨by omega, by omega, fun l hl => ?_⟩
  have := List.any_eq_false.1 h2 l hl
  simp at this
  omega
/-- all that Parse tells -/
theorem prs_rd (t : By) : (prsL t).length ≤ 1024 ∧ ∀ c ∈ prsL t, Rd1 c := by
  unfold prsL
  cases hl : isLongF t with
  | true => simp
  | false =>
    obtain ⟨h1, h2, h3⟩ := long_no hl
    cases hc : cmds (lnl t) with
    | none => simp
    | some L =>
      obtain ⟨a, b⟩ := cmds_rd _ L h3 hc
      exact ⟨by simp; omega, b⟩
/-- printed and read again it is the same -/
theorem rd_back {L : List Cm} (h : ∀ c ∈ L, Rd1 c) : L.map (fun c => clr (shD c) c) = L := by
  have : ∀ c ∈ L, (fun c => clr (shD c) c) c = id c := fun c hc => (h c hc).cl
  rw [List.map_congr_left this, List.map_id]
end Go.Proofs.YtiifkcnpdihlmaaDoor
