/- Layer 8's data: what a transaction wrote, by rising numbers; a commit with the power on. No model. -/
import Derived.Test.YtghdgddpdamhcaaGreatLMath
namespace Go.Proofs.YtghdgddpdamhcaaGreat
set_option linter.unusedVariables false
set_option linter.unusedSimpArgs false
def Rising (W : Wl) : Prop := W.Pairwise (fun a b => a.1 < b.1)
/-- a write more, in the place of an earlier one of that block -/
def insW (n : Nat) (t : ByteArray) : Wl → Wl
  | [] => [(n, t)]
  | p :: r => if n < p.1 then (n, t) :: p :: r else if n = p.1 then (n, t) :: r else p :: insW n t r
def lookW (W : Wl) (n : Nat) : Option ByteArray := match W with
  | [] => none
  | p :: r => if p.1 = n then some p.2 else lookW r n
theorem insW_mem {n : Nat} {t : ByteArray} : ∀ {W : Wl} {x : Nat × ByteArray}, x ∈ insW n t W → x = (n, t) ∨ x ∈ W
  | [], x, h => by simp [insW] at h; exact .inl h
  | p :: r, x, h => by
    unfold insW at h
    split at h
    · rcases List.mem_cons.1 h with h | h
      · exact .inl h
      · exact .inr h
    · split at h
      · rcases List.mem_cons.1 h with h | h
        · exact .inl h
        · exact .inr (List.mem_cons_of_mem _ h)
      · rcases List.mem_cons.1 h with h | h
        · exact .inr (by rw [h]; exact List.mem_cons_self)
        · rcases insW_mem h with h | h
          · exact .inl h
          · exact .inr (List.mem_cons_of_mem _ h)
theorem Rising.ins {n : Nat} {t : ByteArray} : ∀ {W : Wl}, Rising W → Rising (insW n t W)
  | [], _ => by simp [insW, Rising]
  | p :: r, h => by
    obtain ⟨h1, h2⟩ := List.pairwise_cons.1 h
    unfold insW
    split
    · next hlt => exact List.pairwise_cons.2 ⟨fun q hq => by
        rcases List.mem_cons.1 hq with rfl | hq
        · exact hlt
        · exact Nat.lt_trans hlt (h1 q hq), h⟩
    · split
      · next he => exact List.pairwise_cons.2 ⟨fun q hq => by simp only; rw [he]; exact h1 q hq, h2⟩
      · next hn he => exact List.pairwise_cons.2 ⟨fun q hq => by
          rcases insW_mem hq with rfl | hq
          · simp only; omega
          · exact h1 q hq, Rising.ins h2⟩
theorem lookW_ins {n : Nat} {t : ByteArray} : ∀ {W : Wl}, Rising W → ∀ m, lookW (insW n t W) m = if n = m then some t else lookW W m
  | [], _, m => by simp [insW, lookW]
  | p :: r, h, m => by
    obtain ⟨h1, h2⟩ := List.pairwise_cons.1 h
    unfold insW
    split
    · simp [lookW]
    · split
      · next he =>
        by_cases e : n = m
        · simp [lookW, e]
        · simp [lookW, e]; intro e2; exact absurd (he.trans e2) e
      · next hn he =>
        simp only [lookW]
        by_cases e : p.1 = m
        · simp [e]; intro e2; exact absurd (e2.trans e.symm) he
        · simp [e]; exact lookW_ins h2 m
theorem Rising.nodup : ∀ {W : Wl}, Rising W → (W.map Prod.fst).Nodup
  | [], _ => by simp
  | p :: r, h => by
    obtain ⟨h1, h2⟩ := List.pairwise_cons.1 h
    rw [List.map_cons, List.nodup_cons]
    refine ⟨fun hm => ?_, Rising.nodup h2⟩
    obtain ⟨q, hq, e⟩ := List.mem_map.1 hm
    have := h1 q hq; omega
theorem lookW_mem : ∀ {W : Wl} {n : Nat} {t : ByteArray}, lookW W n = some t → (n, t) ∈ W
  | [], _, _, h => by cases h
  | p :: r, n, t, h => by
    unfold lookW at h
    split at h
    · next e => cases h; subst e; exact List.mem_cons_self
    · exact List.mem_cons_of_mem _ (lookW_mem h)
theorem lookW_of_mem : ∀ {W : Wl} {n : Nat} {t : ByteArray}, Rising W → (n, t) ∈ W → lookW W n = some t
  | p :: r, n, t, h, hm => by
    obtain ⟨h1, h2⟩ := List.pairwise_cons.1 h
    unfold lookW
    rcases List.mem_cons.1 hm with e | hm
    · rw [← e]; simp
    · have := h1 _ hm
      rw [if_neg (by simp at this; omega)]
      exact lookW_of_mem h2 hm
theorem lookW_none {W : Wl} {n : Nat} (h : lookW W n = none) : ∀ p ∈ W, p.1 ≠ n := by
  induction W with
  | nil => intro p hp; cases hp
  | cons q r ih =>
    unfold lookW at h
    split at h
    · cases h
    · next e =>
      intro p hp
      rcases List.mem_cons.1 hp with rfl | hp
      · exact e
      · exact ih h p hp
/-- numbers of blocks, and whole texts -/
def InB (m : Nat) (W : Wl) : Prop := ∀ p ∈ W, p.1 < m ∧ p.2.size = 512
theorem InB.ins {m n : Nat} {t : ByteArray} {W : Wl} (h : InB m W) (hn : n < m) (ht : t.size = 512) : InB m (insW n t W) := fun p hp => by
  rcases insW_mem hp with rfl | hp
  · exact ⟨hn, ht⟩
  · exact h p hp
theorem InB.nil (m : Nat) : InB m [] := fun p hp => by cases hp
theorem rising_length : ∀ (W : Wl) (k m : Nat), Rising W → (∀ p ∈ W, k ≤ p.1 ∧ p.1 < m) → W.length + k ≤ m ∨ W = []
  | [], _, _, _, _ => .inr rfl
  | p :: r, k, m, h, hm => by
    obtain ⟨h1, h2⟩ := List.pairwise_cons.1 h
    have hp := hm p List.mem_cons_self
    rcases rising_length r (p.1 + 1) m h2 (fun q hq => ⟨h1 q hq, (hm q (List.mem_cons_of_mem _ hq)).2⟩) with h | h
    · left; simp; omega
    · left; subst h; simp; omega
theorem Rising.length {W : Wl} {m : Nat} (h : Rising W) (hm : InB m W) : W.length ≤ m := by
  rcases rising_length W 0 m h (fun p hp => ⟨Nat.zero_le _, (hm p hp).1⟩) with h | h
  · omega
  · subst h; simp
/-- block by block: what the lay of rising writes makes -/
theorem lay_look : ∀ {W : Wl} {B : List ByteArray}, Rising W → InB B.length W → ∀ i, i < B.length → (lay B W)[i]? = some ((lookW W i).getD (B.getD i ByteArray.empty))
  | [], B, _, _, i, hi => by simp [lay, lookW, List.getD_eq_getElem?_getD, List.getElem?_eq_getElem hi]
  | p :: r, B, h, hm, i, hi => by
    obtain ⟨h1, h2⟩ := List.pairwise_cons.1 h
    have hp := hm p List.mem_cons_self
    show (lay (B.set p.1 p.2) r)[i]? = some ((if p.1 = i then some p.2 else lookW r i).getD _)
    rw [lay_look h2 (by rw [List.length_set]; exact fun q hq => hm q (List.mem_cons_of_mem _ hq)) i (by simpa using hi)]
    by_cases e : p.1 = i
    · have hn : lookW r i = none := by
        cases hl : lookW r i with
        | none => rfl
        | some t => have := h1 _ (lookW_mem hl); simp at this; omega
      rw [if_pos e]
      subst e
      simp [hn, List.getD_eq_getElem?_getD, List.getElem?_set_self hp.1]
    · rw [if_neg e]
      simp [List.getD_eq_getElem?_getD, List.getElem?_set_ne e]
section
variable {N : Names}
theorem lay_on (st : St) (l : Wl) (ho : st.off = false) (hp : st.pend = []) (hf : st.fall = 0) (hl : ∀ p ∈ l, p.1 < st.safe.length ∧ p.2.size = 512) : layR st l = ({ st with safe := lay st.safe l }, 0) := by
  have h := (layR_spec l st ho hl).1 (.inl hf)
  have e : st.seen = st.safe := by unfold St.seen; rw [hp]; rfl
  rw [h, e]
  obtain ⟨a, b, c, d, f⟩ := st
  simp only at hp hf ho
  subst hp hf ho
  simp
theorem wf_on {st : St} (wf : st.WF) (hp : st.pend = []) (l : Wl) (hl : ∀ p ∈ l, p.1 < st.safe.length ∧ p.2.size = 512) : ({ st with safe := lay st.safe l } : St).WF := by
  have := wf_lay wf l hl st.fall (Nat.le_refl _)
  obtain ⟨a, b, c, d, f⟩ := st
  simp only at hp
  subst hp
  exact this
/-- the four lays of a commit, where the power stays: what is behind the head is whatever it is -/
theorem com_on (hN : ∀ s c, (N.hd s c).size = 512) {st : St} {n s c : Nat} {B : List ByteArray} {w bl : Wl} (ok : OKst N st n s B) (hf : st.fall = 0) (hs : 1 ≤ s) (hsn : s < n) (hbl : ∀ p ∈ bl, 1 + p.1 < s ∧ p.2.size = 512) (hw : InB (n - s) w) :
    ∃ x1 x2 x3 x4 : St, layR st (shift 1 bl) = (x1, 0) ∧ layR x1 [(0, N.hd s c)] = (x2, 0) ∧ layR x2 (shift s w) = (x3, 0) ∧ layR x3 [(0, N.hd s 0)] = (x4, 0) ∧ OKst N x4 n s (lay B w) ∧ x4.fall = 0 ∧ x1.pend = [] ∧ x2.pend = [] ∧ x3.pend = [] := by
  obtain ⟨wf, hp, ho, hopn, hn, h0, hb⟩ := ok
  have hl1 : ∀ p ∈ shift 1 bl, p.1 < st.safe.length ∧ p.2.size = 512 := fun p hp => by
    obtain ⟨q, hq, rfl⟩ := mem_shift hp
    have := hbl q hq; exact ⟨by simp only; omega, this.2⟩
  have e1 := lay_on st _ ho hp hf hl1
  have n1 : (lay st.safe (shift 1 bl)).length = n := by rw [lay_length]; exact hn
  have wf1 : ({ st with safe := lay st.safe (shift 1 bl) } : St).WF := wf_on wf hp _ hl1
  have d1 : (lay st.safe (shift 1 bl)).drop s = B := by
    rw [drop_lay_lt _ _ _ (fun p hp => by obtain ⟨q, hq, rfl⟩ := mem_shift hp; exact (hbl q hq).1)]; exact hb
  generalize lay st.safe (shift 1 bl) = L1 at *
  have hl2 : ∀ p ∈ [((0 : Nat), N.hd s c)], p.1 < L1.length ∧ p.2.size = 512 := fun p hp => by
    simp at hp; subst hp; exact ⟨by simp only; omega, hN _ _⟩
  have e2 := lay_on { st with safe := L1 } _ ho hp hf hl2
  have wf2 : ({ st with safe := L1.set 0 (N.hd s c) } : St).WF := wf_on wf1 hp _ hl2
  have d2 : (L1.set 0 (N.hd s c)).drop s = B := by rw [drop_set_lt _ _ _ _ hs]; exact d1
  have n2 : (L1.set 0 (N.hd s c)).length = n := by rw [List.length_set]; exact n1
  simp only [lay, List.foldl_cons, List.foldl_nil] at e2
  generalize L1.set 0 (N.hd s c) = L2 at *
  have hl3 : ∀ p ∈ shift s w, p.1 < L2.length ∧ p.2.size = 512 := fun p hp => by
    obtain ⟨q, hq, rfl⟩ := mem_shift hp
    have := hw q hq; exact ⟨by simp only; omega, this.2⟩
  have e3 := lay_on { st with safe := L2 } _ ho hp hf hl3
  have wf3 : ({ st with safe := lay L2 (shift s w) } : St).WF := wf_on wf2 hp _ hl3
  have d3 : (lay L2 (shift s w)).drop s = lay B w := by rw [drop_lay_ge, d2]
  have n3 : (lay L2 (shift s w)).length = n := by rw [lay_length]; exact n2
  simp only at e3
  generalize lay L2 (shift s w) = L3 at *
  have hl4 : ∀ p ∈ [((0 : Nat), N.hd s 0)], p.1 < L3.length ∧ p.2.size = 512 := fun p hp => by
    simp at hp; subst hp; exact ⟨by simp only; omega, hN _ _⟩
  have e4 := lay_on { st with safe := L3 } _ ho hp hf hl4
  have wf4 : ({ st with safe := L3.set 0 (N.hd s 0) } : St).WF := wf_on wf3 hp _ hl4
  simp only [lay, List.foldl_cons, List.foldl_nil] at e4
  refine ⟨_, _, _, _, e1, e2, e3, e4, ⟨wf4, hp, ho, hopn, by simp [n3], List.getElem?_set_self (by omega), ?_⟩, hf, hp, hp, hp⟩
  show (L3.set 0 (N.hd s 0)).drop s = _
  rw [drop_set_lt _ _ _ _ hs, d3]
end
end Go.Proofs.YtghdgddpdamhcaaGreat
