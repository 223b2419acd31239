/- The disk as the chapter tells it: what is safe, what is pending, off, open, the fall. No model. -/
namespace Go.Proofs.YtghdgddpdamhcaaGreat
set_option linter.unusedVariables false
set_option linter.unusedSimpArgs false
structure St where
  safe : List ByteArray
  pend : List (Nat × ByteArray)
  off : Bool
  opn : Bool
  fall : Nat
def lay (s : List ByteArray) (l : List (Nat × ByteArray)) : List ByteArray := l.foldl (fun s p => s.set p.1 p.2) s
/-- the writes whose number stands among the kept -/
def layK (kept : List Int) : Nat → List ByteArray → List (Nat × ByteArray) → List ByteArray
  | _, s, [] => s
  | i, s, p :: r => layK kept (i + 1) (if (i : Int) ∈ kept then s.set p.1 p.2 else s) r
/-- the sectors that are written to, taken from another row -/
def cpy (src : List ByteArray) (dst : List ByteArray) (l : List (Nat × ByteArray)) : List ByteArray := l.foldl (fun s p => s.set p.1 (src.getD p.1 ByteArray.empty)) dst
theorem lay_length : ∀ (l : List (Nat × ByteArray)) (s : List ByteArray), (lay s l).length = s.length
  | [], _ => rfl
  | p :: r, s => by show (lay (s.set p.1 p.2) r).length = _; rw [lay_length r, List.length_set]
theorem layK_length (kept : List Int) : ∀ (l : List (Nat × ByteArray)) (i : Nat) (s : List ByteArray), (layK kept i s l).length = s.length
  | [], _, _ => rfl
  | p :: r, i, s => by rw [layK, layK_length kept r]; split <;> simp
theorem cpy_length (src : List ByteArray) : ∀ (l : List (Nat × ByteArray)) (s : List ByteArray), (cpy src s l).length = s.length
  | [], _ => rfl
  | p :: r, s => by show (cpy src (s.set p.1 _) r).length = _; rw [cpy_length src r, List.length_set]
theorem lay_snoc (s : List ByteArray) (l : List (Nat × ByteArray)) (p : Nat × ByteArray) : lay s (l ++ [p]) = (lay s l).set p.1 p.2 := by simp [lay, List.foldl_append]
theorem cpy_snoc (src s : List ByteArray) (l : List (Nat × ByteArray)) (p : Nat × ByteArray) : cpy src s (l ++ [p]) = (cpy src s l).set p.1 (src.getD p.1 ByteArray.empty) := by simp [cpy, List.foldl_append]
theorem layK_snoc (kept : List Int) : ∀ (l : List (Nat × ByteArray)) (i : Nat) (s : List ByteArray) (p : Nat × ByteArray), layK kept i s (l ++ [p]) = if ((i + l.length : Nat) : Int) ∈ kept then (layK kept i s l).set p.1 p.2 else layK kept i s l
  | [], i, s, p => by simp [layK]
  | q :: r, i, s, p => by
    rw [List.cons_append, layK, layK_snoc kept r, layK]
    have : i + 1 + r.length = i + (q :: r).length := by simp; omega
    rw [this]
theorem lay_get : ∀ (l : List (Nat × ByteArray)) (s : List ByteArray) (n : Nat), (∀ p ∈ l, p.1 ≠ n) → (lay s l)[n]? = s[n]?
  | [], _, _, _ => rfl
  | p :: r, s, n, h => by
    show (lay (s.set p.1 p.2) r)[n]? = _
    rw [lay_get r _ n (fun q hq => h q (List.mem_cons_of_mem _ hq)), List.getElem?_set_ne (h p List.mem_cons_self)]
theorem layK_get (kept : List Int) : ∀ (l : List (Nat × ByteArray)) (i : Nat) (s : List ByteArray) (n : Nat), (∀ p ∈ l, p.1 ≠ n) → (layK kept i s l)[n]? = s[n]?
  | [], _, _, _, _ => rfl
  | p :: r, i, s, n, h => by
    rw [layK, layK_get kept r _ _ n (fun q hq => h q (List.mem_cons_of_mem _ hq))]
    split
    · rw [List.getElem?_set_ne (h p List.mem_cons_self)]
    · rfl
theorem cpy_get (src : List ByteArray) : ∀ (l : List (Nat × ByteArray)) (s : List ByteArray), s.length = src.length → ∀ n, (cpy src s l)[n]? = src[n]? ∨ ((cpy src s l)[n]? = s[n]? ∧ ∀ p ∈ l, p.1 ≠ n)
  | [], s, _, n => .inr ⟨rfl, by simp⟩
  | p :: r, s, hl, n => by
    rcases cpy_get src r (s.set p.1 (src.getD p.1 ByteArray.empty)) (by simpa using hl) n with h | ⟨h, hr⟩
    · exact .inl h
    · by_cases e : p.1 = n
      · subst e
        refine .inl (h.trans ?_)
        rw [List.getElem?_set]
        simp only [if_true]
        by_cases hb : p.1 < s.length
        · rw [if_pos hb, List.getD_eq_getElem?_getD, List.getElem?_eq_getElem (by omega)]; rfl
        · rw [if_neg hb, List.getElem?_eq_none (by omega)]
      · refine .inr ⟨h.trans (List.getElem?_set_ne e), fun q hq => ?_⟩
        rcases List.mem_cons.1 hq with rfl | hq
        · exact e
        · exact hr q hq
theorem cpy_full (src dst : List ByteArray) (l : List (Nat × ByteArray)) (hl : dst.length = src.length) (h : ∀ n, (∀ p ∈ l, p.1 ≠ n) → dst[n]? = src[n]?) : cpy src dst l = src := by
  apply List.ext_getElem?
  intro n
  rcases cpy_get src l dst hl n with h1 | ⟨h1, h2⟩
  · exact h1
  · exact h1.trans (h n h2)
def Sz (s : List ByteArray) : Prop := ∀ t ∈ s, t.size = 512
theorem Sz.set {s : List ByteArray} (h : Sz s) (n : Nat) {t : ByteArray} (ht : t.size = 512) : Sz (s.set n t) := fun x hx => by
  rcases List.mem_or_eq_of_mem_set hx with h1 | rfl
  · exact h x h1
  · exact ht
theorem Sz.lay : ∀ (l : List (Nat × ByteArray)) {s : List ByteArray}, Sz s → (∀ p ∈ l, p.2.size = 512) → Sz (lay s l)
  | [], _, h, _ => h
  | p :: r, s, h, hl => Sz.lay r (h.set p.1 (hl p List.mem_cons_self)) (fun q hq => hl q (List.mem_cons_of_mem _ hq))
theorem Sz.layK (kept : List Int) : ∀ (l : List (Nat × ByteArray)) (i : Nat) {s : List ByteArray}, Sz s → (∀ p ∈ l, p.2.size = 512) → Sz (layK kept i s l)
  | [], _, _, h, _ => h
  | p :: r, i, s, h, hl => by
    unfold Go.Proofs.YtghdgddpdamhcaaGreat.layK
    refine Sz.layK kept r (i + 1) ?_ (fun q hq => hl q (List.mem_cons_of_mem _ hq))
    split
    · exact h.set p.1 (hl p List.mem_cons_self)
    · exact h
namespace St
def seen (st : St) : List ByteArray := lay st.safe st.pend
structure WF (st : St) : Prop where
  lo : 1 ≤ st.safe.length
  hi : st.safe.length ≤ 8192
  sz : Sz st.safe
  pd : ∀ p ∈ st.pend, p.1 < st.safe.length ∧ p.2.size = 512
  fl : st.fall ≤ 9223372036854775807
theorem seen_length (st : St) : st.seen.length = st.safe.length := lay_length _ _
theorem WF.seen {st : St} (h : st.WF) : Sz st.seen := Sz.lay _ h.sz (fun p hp => (h.pd p hp).2)
def has (st : St) (n : Int) : Bool := decide (0 ≤ n ∧ n < st.safe.length)
def read (st : St) (n : Int) : ByteArray × Int := if st.off then (ByteArray.empty, 9) else if st.has n then (st.seen.getD n.toNat ByteArray.empty, 0) else (ByteArray.empty, 1)
/-- does the power go at this call, and what is then -/
def gone (st : St) : Bool := st.fall == 1
def went (st : St) : St := if st.fall = 0 then st else if st.fall = 1 then { st with fall := 0, off := true, opn := true } else { st with fall := st.fall - 1 }
def write (st : St) (n : Int) (t : ByteArray) : St × Int :=
  if st.off then (st, 9) else if st.has n && t.size == 512 then (if st.gone then (st.went, 9) else ({ st.went with pend := st.pend ++ [(n.toNat, t)] }, 0)) else (st, 1)
def flush (st : St) : St × Int :=
  if st.off then (st, 9) else if st.gone then (st.went, 9) else ({ st.went with safe := st.seen, pend := [] }, 0)
def fallTo (st : St) (n : Int) : St := { st with fall := n.toNat }
def settle (st : St) (kept : List Int) : St := { st with safe := layK kept 0 st.safe st.pend, pend := [], opn := false, fall := 0 }
def crash (st : St) (kept : List Int) : St := if st.off && !st.opn then st else { st.settle kept with off := true }
def on (st : St) : St := { (if st.opn then st.settle [] else st) with off := false }
theorem went_safe (st : St) : st.went.safe = st.safe := by unfold went; split <;> (try split) <;> rfl
theorem went_pend (st : St) : st.went.pend = st.pend := by unfold went; split <;> (try split) <;> rfl
theorem went_seen (st : St) : st.went.seen = st.seen := by unfold seen; rw [went_safe, went_pend]
theorem WF.went {st : St} (h : st.WF) : st.went.WF := ⟨by rw [went_safe]; exact h.lo, by rw [went_safe]; exact h.hi, by rw [went_safe]; exact h.sz, by rw [went_safe, went_pend]; exact h.pd, by
  have := h.fl; unfold St.went; split <;> (try split) <;> simp <;> omega⟩
theorem WF.settle {st : St} (h : st.WF) (kept : List Int) : (st.settle kept).WF :=
  ⟨by simp [St.settle, layK_length]; exact h.lo, by simp [St.settle, layK_length]; exact h.hi, Sz.layK kept _ _ h.sz (fun p hp => (h.pd p hp).2), by simp [St.settle], by simp [St.settle]⟩
theorem WF.write {st : St} (h : st.WF) (n : Int) (t : ByteArray) : (st.write n t).1.WF := by
  unfold St.write
  split
  · exact h
  · split
    · next hn =>
      split
      · exact h.went
      · have hw := h.went
        refine ⟨hw.lo, hw.hi, hw.sz, ?_, hw.fl⟩
        intro p hp
        simp only [went_safe]
        simp [St.has] at hn
        rcases List.mem_append.1 hp with hp | hp
        · exact h.pd p hp
        · simp at hp; subst hp; exact ⟨by simp; omega, hn.2⟩
    · exact h
theorem WF.flush {st : St} (h : st.WF) : st.flush.1.WF := by
  unfold St.flush
  split
  · exact h
  · split
    · exact h.went
    · have hw := h.went
      refine ⟨by simp [seen_length]; exact h.lo, by simp [seen_length]; exact h.hi, h.seen, by simp, hw.fl⟩
theorem WF.crash {st : St} (h : st.WF) (kept : List Int) : (st.crash kept).WF := by
  unfold St.crash
  split
  · exact h
  · have := h.settle kept; exact ⟨this.lo, this.hi, this.sz, this.pd, this.fl⟩
theorem WF.on {st : St} (h : st.WF) : st.on.WF := by
  unfold St.on
  have : (if st.opn then st.settle [] else st).WF := by split; exact h.settle []; exact h
  exact ⟨this.lo, this.hi, this.sz, this.pd, this.fl⟩
theorem WF.fallTo {st : St} (h : st.WF) (n : Int) (hn : n ≤ 9223372036854775807) : (st.fallTo n).WF := ⟨h.lo, h.hi, h.sz, h.pd, by simp [St.fallTo]; omega⟩
end St
/-- 512 times a byte -/
def fl (c : UInt8) : ByteArray := ⟨(List.replicate 512 c).toArray⟩
theorem fl_size (c : UInt8) : (fl c).size = 512 := by
  show (List.replicate 512 c).toArray.size = 512
  rw [List.size_toArray, List.length_replicate]
/-- a disk of so many sectors, all zeros -/
def fresh (n : Nat) : St := ⟨List.replicate n (fl 0), [], false, false, 0⟩
theorem fresh_wf (n : Nat) (h1 : 1 ≤ n) (h2 : n ≤ 8192) : (fresh n).WF := ⟨by simpa [fresh] using h1, by simpa [fresh] using h2, fun t ht => by rw [(List.mem_replicate.1 ht).2, fl_size], by simp [fresh], by simp [fresh]⟩
end Go.Proofs.YtghdgddpdamhcaaGreat
