/- A write put among writes by rising numbers, one by one. No model. -/
import Derived.Test.YtlgpodcoiioefaaGreatTMath
namespace Go.Proofs.YtlgpodcoiioefaaGreat
set_option linter.unusedVariables false
set_option linter.unusedSimpArgs false
theorem ins_far {n : Nat} {t : ByteArray} : ∀ (A B : Wl), (∀ p ∈ A, p.1 < n) → insW n t (A ++ B) = A ++ insW n t B
  | [], _, _ => rfl
  | p :: r, B, h => by
    have h0 := h p List.mem_cons_self
    rw [List.cons_append, insW, if_neg (by omega), if_neg (by omega), ins_far r B (fun q hq => h q (List.mem_cons_of_mem _ hq))]; rfl
theorem ins_past {n : Nat} {t : ByteArray} (p : Nat × ByteArray) : ∀ (A : Wl), (∃ a ∈ A, n ≤ a.1) → insW n t (A ++ [p]) = insW n t A ++ [p]
  | [], h => by obtain ⟨a, ha, _⟩ := h; cases ha
  | q :: r, h => by
    rw [List.cons_append, insW, insW]
    split
    · rfl
    · next h1 =>
      split
      · rfl
      · next h2 =>
        obtain ⟨a, ha, hn⟩ := h
        rcases List.mem_cons.1 ha with rfl | ha
        · omega
        · rw [ins_past p r ⟨a, ha, hn⟩]; rfl
/-- how far it is: the writes so far, and whether the new one stands among them -/
structure InsAt (n : Nat) (t : ByteArray) (W : Wl) (k : Nat) (put : Bool) (R : Wl) : Prop where
  no : put = false → (∀ p ∈ W.take k, p.1 < n) ∧ R = W.take k
  yes : put = true → (∃ p ∈ W.take k, n ≤ p.1) ∧ R = insW n t (W.take k)
theorem InsAt.zero (n : Nat) (t : ByteArray) (W : Wl) : InsAt n t W 0 false [] := ⟨fun _ => ⟨fun p hp => by simp at hp, rfl⟩, fun h => by cases h⟩
theorem take_one {W : Wl} {k : Nat} {p : Nat × ByteArray} (h : W[k]? = some p) : W.take (k + 1) = W.take k ++ [p] := by
  have hk := (List.getElem?_eq_some_iff.1 h).1
  rw [List.take_succ_eq_append_getElem hk, Option.some.inj ((List.getElem?_eq_getElem hk).symm.trans h)]
section
variable {n : Nat} {t : ByteArray} {W : Wl} {k : Nat} {R : Wl} {p : Nat × ByteArray}
theorem InsAt.less (h : InsAt n t W k false R) (hp : W[k]? = some p) (hlt : p.1 < n) : InsAt n t W (k + 1) false (R ++ [p]) := by
  obtain ⟨h1, h2⟩ := h.no rfl
  refine ⟨fun _ => ⟨fun q hq => ?_, by rw [take_one hp, h2]⟩, fun h => by cases h⟩
  rw [take_one hp] at hq
  rcases List.mem_append.1 hq with hq | hq
  · exact h1 q hq
  · simp at hq; subst hq; exact hlt
theorem InsAt.more (h : InsAt n t W k false R) (hp : W[k]? = some p) (hlt : n < p.1) : InsAt n t W (k + 1) true (R ++ [(n, t)] ++ [p]) := by
  obtain ⟨h1, h2⟩ := h.no rfl
  refine ⟨fun h => (by cases h), fun _ => ⟨⟨p, by rw [take_one hp]; simp, by omega⟩, ?_⟩⟩
  rw [take_one hp, ins_far _ _ h1, h2, insW, if_pos hlt]; simp
theorem InsAt.same (h : InsAt n t W k false R) (hp : W[k]? = some p) (he : p.1 = n) : InsAt n t W (k + 1) true (R ++ [(n, t)]) := by
  obtain ⟨h1, h2⟩ := h.no rfl
  refine ⟨fun h => (by cases h), fun _ => ⟨⟨p, by rw [take_one hp]; simp, by omega⟩, ?_⟩⟩
  rw [take_one hp, ins_far _ _ h1, h2, insW, if_neg (by omega), if_pos he.symm]
theorem InsAt.past (h : InsAt n t W k true R) (hR : Rising W) (hp : W[k]? = some p) : n < p.1 ∧ InsAt n t W (k + 1) true (R ++ [p]) := by
  obtain ⟨⟨a, ha, hn⟩, h2⟩ := h.yes rfl
  have hlt : a.1 < p.1 := by
    have hp2 : Rising (W.take (k + 1)) := List.Pairwise.sublist (List.take_sublist _ _) hR
    rw [take_one hp] at hp2
    exact (List.pairwise_append.1 hp2).2.2 a ha p (by simp)
  refine ⟨by omega, ⟨fun h => (by cases h), fun _ => ⟨⟨a, by rw [take_one hp]; exact List.mem_append_left _ ha, hn⟩, ?_⟩⟩⟩
  rw [take_one hp, ins_past p _ ⟨a, ha, hn⟩, h2]
/-- between: the write at hand is still to be taken, if it is of another block -/
structure InsMid (n : Nat) (t : ByteArray) (W : Wl) (k : Nat) (p : Nat × ByteArray) (b : Bool) (R : Wl) : Prop where
  same : p.1 = n → InsAt n t W (k + 1) b R
  other : p.1 ≠ n → InsAt n t W (k + 1) b (R ++ [p])
theorem InsAt.mid_past (h : InsAt n t W k true R) (hR : Rising W) (hp : W[k]? = some p) : InsMid n t W k p true R := by
  obtain ⟨h1, h2⟩ := h.past hR hp
  exact ⟨fun e => absurd e (by omega), fun _ => h2⟩
theorem InsAt.mid_less (h : InsAt n t W k false R) (hp : W[k]? = some p) (hlt : p.1 < n) : InsMid n t W k p false R := ⟨fun e => absurd e (by omega), fun _ => h.less hp hlt⟩
theorem InsAt.mid_more (h : InsAt n t W k false R) (hp : W[k]? = some p) (hge : n ≤ p.1) : InsMid n t W k p true (R ++ [(n, t)]) := ⟨fun e => h.same hp e, fun e => h.more hp (by omega)⟩
theorem InsAt.end_no (h : InsAt n t W W.length false R) : insW n t W = R ++ [(n, t)] := by
  obtain ⟨h1, h2⟩ := h.no rfl
  rw [List.take_length] at h1 h2
  have := ins_far (t := t) W [] h1
  rw [List.append_nil] at this
  rw [this, h2]; rfl
theorem InsAt.end_yes (h : InsAt n t W W.length true R) : insW n t W = R := by
  obtain ⟨_, h2⟩ := h.yes rfl
  rw [List.take_length] at h2
  exact h2.symm
theorem InsAt.len {b : Bool} (h : InsAt n t W k b R) : R.length ≤ W.length + 1 := by
  have hl : (W.take k).length ≤ W.length := by rw [List.length_take]; omega
  have hi : ∀ A : Wl, (insW n t A).length ≤ A.length + 1 := by
    intro A
    induction A with
    | nil => simp [insW]
    | cons q r ih =>
      unfold insW
      split
      · simp
      · split
        · simp
        · simp; omega
  cases b with
  | false => rw [(h.no rfl).2]; omega
  | true => rw [(h.yes rfl).2]; have := hi (W.take k); omega
end
end Go.Proofs.YtlgpodcoiioefaaGreat
