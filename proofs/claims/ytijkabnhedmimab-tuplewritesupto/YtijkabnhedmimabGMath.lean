/- Reading a text's groups: no model here. -/
import Derived.Test.YtijkabnhedmimabMath
namespace Go.Proofs.Ytijkabnhedmimab
set_option linter.unusedVariables false
set_option linter.unusedSimpArgs false
theorem grp9 {R u r : List UInt8} (h : R = grp u ++ r) : 9 ≤ R.length ∧ R.getD 8 0 = nin u ∧ R.take 8 = u.take 8 ++ List.replicate (8 - (u.take 8).length) 0 := by
  obtain ⟨q, hq⟩ := grp_head u
  subst h
  rw [hq]
  have hl : (u.take 8 ++ List.replicate (8 - (u.take 8).length) (0 : UInt8)).length = 8 := by simp; omega
  generalize u.take 8 ++ List.replicate (8 - (u.take 8).length) (0 : UInt8) = A at *
  refine ⟨by simp; omega, ?_, ?_⟩
  · rw [List.append_assoc, List.append_assoc, List.getD_eq_getElem?_getD, List.getElem?_append_right (by omega), hl]
    rfl
  · rw [List.append_assoc, List.append_assoc, List.take_append_of_le_length (by omega), List.take_of_length_le (by omega)]
theorem nin_le (u : List UInt8) : (nin u).toNat ≤ 9 := by
  unfold nin
  split
  · simp; omega
  · decide
theorem nin_nine {u : List UInt8} : nin u = 9 ↔ 8 < u.length := by
  unfold nin
  split
  · next h =>
    constructor
    · intro e
      have := congrArg UInt8.toNat e
      simp at this
      omega
    · omega
  · simp; omega
theorem nin_small {u : List UInt8} {c : Nat} (h : (nin u).toNat = c) (hc : c ≤ 8) : u.length = c := by
  unfold nin at h
  split at h
  · simp at h; omega
  · have : (9 : UInt8).toNat = 9 := rfl
    omega
/-- where the reader of groups stands -/
structure GI (b T R : List UInt8) : Prop where
  out : ∀ u r, b = grp u ++ r ↔ ∃ u', u = T ++ u' ∧ R = grp u' ++ r ∧ (T ≠ [] → u' ≠ [])
theorem GI.start (b : List UInt8) : GI b [] b := ⟨fun u r => ⟨fun h => ⟨u, rfl, h, fun h => absurd rfl h⟩, fun ⟨u', h1, h2, _⟩ => by subst h1; exact h2⟩⟩
theorem GI.short {b T R : List UInt8} (h : GI b T R) (hl : R.length ≤ 8) : ∀ t r, b ≠ grp t ++ r := by
  intro t r e
  obtain ⟨u', _, h2, _⟩ := (h.out t r).1 e
  have := (grp9 h2).1
  omega
theorem cut9 {R : List UInt8} (h : 9 ≤ R.length) : R = R.take 8 ++ R.getD 8 0 :: R.drop 9 := by
  have e : R.drop 8 = R.getD 8 0 :: R.drop 9 := by
    rw [List.getD_eq_getElem?_getD, List.getElem?_eq_getElem (by omega)]
    exact List.drop_eq_getElem_cons (by omega)
  rw [← e]
  simp
theorem GI.next {b T R : List UInt8} (h : GI b T R) (hl : 9 ≤ R.length) (h9 : R.getD 8 0 = 9) : GI b (T ++ R.take 8) (R.drop 9) := by
  constructor
  intro u r
  rw [h.out]
  have hc := cut9 hl
  rw [h9] at hc
  constructor
  · rintro ⟨u', rfl, h2, _⟩
    obtain ⟨_, g1, g2⟩ := grp9 h2
    have hlen : 8 < u'.length := nin_nine.1 (by rw [← g1]; exact h9)
    have e0 : 8 - (u'.take 8).length = 0 := by simp; omega
    rw [e0] at g2
    have g3 : R.take 8 = u'.take 8 := by simpa using g2
    refine ⟨u'.drop 8, ?_, ?_, ?_⟩
    · rw [g3]; simp
    · rw [grp_long hlen] at h2
      rw [hc, g3] at h2
      have : u'.take 8 ++ (9 :: R.drop 9) = u'.take 8 ++ (9 :: (grp (u'.drop 8) ++ r)) := by simpa using h2
      have := List.append_cancel_left this
      simpa using this
    · intro _ e
      have := congrArg List.length e
      rw [List.length_drop] at this
      simp at this
      omega
  · rintro ⟨u', rfl, h2, h3⟩
    have hl8 : (R.take 8).length = 8 := by rw [List.length_take]; omega
    have hne : u' ≠ [] := h3 (by intro e; have := congrArg List.length e; rw [List.length_append, hl8] at this; simp at this)
    have hpos : 0 < u'.length := List.length_pos_iff.2 hne
    refine ⟨R.take 8 ++ u', by simp, ?_, ?_⟩
    · rw [grp_long (by rw [List.length_append]; omega), List.take_append_of_le_length (by omega), List.take_of_length_le (by omega), List.drop_append_of_le_length (by omega), List.drop_of_length_le (by omega)]
      simp only [List.nil_append]
      rw [hc, h2]
      have : ((R.take 8 ++ 9 :: (grp u' ++ r)).take 8) = R.take 8 := by rw [List.take_append_of_le_length (by omega), List.take_of_length_le (by omega)]
      rw [this]
      simp
    · intro _ e
      have := congrArg List.length e
      rw [List.length_append, hl8] at this
      simp at this
theorem GI.odd {b T R : List UInt8} (h : GI b T R) (h9 : ¬ R.getD 8 0 = 9) (h8 : 8 < (R.getD 8 0).toNat) : ∀ t r, b ≠ grp t ++ r := by
  intro t r e
  obtain ⟨u', _, h2, _⟩ := (h.out t r).1 e
  have g1 := (grp9 h2).2.1
  have := nin_le u'
  rw [← g1] at this
  exact h9 (UInt8.toNat.inj (show _ = (9 : UInt8).toNat from by rw [show (9 : UInt8).toNat = 9 from rfl]; omega))
theorem GI.unfilled {b T R : List UInt8} (h : GI b T R) {c : Nat} (hc : (R.getD 8 0).toNat = c) (h8 : c ≤ 8) (hf : (R.take 8).drop c ≠ List.replicate (8 - c) 0) : ∀ t r, b ≠ grp t ++ r := by
  intro t r e
  obtain ⟨u', _, h2, _⟩ := (h.out t r).1 e
  obtain ⟨_, g1, g2⟩ := grp9 h2
  have hl : u'.length = c := nin_small (by rw [← g1]; exact hc) h8
  apply hf
  rw [g2, List.take_of_length_le (by omega), List.drop_append_of_le_length (by omega), List.drop_of_length_le (by omega), hl]
  rfl
theorem GI.none {b T R : List UInt8} (h : GI b T R) (hc : (R.getD 8 0).toNat = 0) (hT : T ≠ []) : ∀ t r, b ≠ grp t ++ r := by
  intro t r e
  obtain ⟨u', _, h2, h3⟩ := (h.out t r).1 e
  have g1 := (grp9 h2).2.1
  have hl : u'.length = 0 := nin_small (by rw [← g1]; exact hc) (by omega)
  exact h3 hT (List.eq_nil_of_length_eq_zero hl)
theorem GI.last {b T R : List UInt8} (h : GI b T R) (hl : 9 ≤ R.length) {c : Nat} (hc : (R.getD 8 0).toNat = c) (h8 : c ≤ 8) (hf : (R.take 8).drop c = List.replicate (8 - c) 0) (h0 : c = 0 → T = []) : b = grp (T ++ (R.take 8).take c) ++ R.drop 9 := by
  rw [h.out]
  have hl8 : (R.take 8).length = 8 := by rw [List.length_take]; omega
  have hlc : ((R.take 8).take c).length = c := by rw [List.length_take]; omega
  refine ⟨(R.take 8).take c, rfl, ?_, ?_⟩
  · rw [grp_short (by omega), hlc, ← hf]
    have e : UInt8.ofNat c = R.getD 8 0 := by apply UInt8.toNat.inj; rw [← hc]; simp
    have e2 : (R.take 8).take c ++ (R.take 8).drop c = R.take 8 := List.take_append_drop _ _
    rw [e, e2]
    have := cut9 hl
    rw [List.append_assoc]
    exact this
  · intro hT e
    rw [e] at hlc
    exact hT (h0 (by simpa using hlc.symm))
end Go.Proofs.Ytijkabnhedmimab
