/- The best cut, where sums are small. -/
import Derived.Test.YtibmnpkmbhjniaaSiz
namespace Go.Proofs.Ytibmnpkmbhjniaa
set_option linter.unusedVariables false
set_option linter.unusedSimpArgs false
open Go.RowKit
def gr (l : List En) (k : Nat) : Nat := if tot (l.take k) < tot (l.drop k) then tot (l.drop k) else tot (l.take k)
def cn (l : List En) : Nat → Nat × Nat
  | 0 => (l.length, tot l)
  | k + 1 => match l[k]? with
    | none => cn l k
    | some _ => if gr l (k + 1) < (cn l k).2 then (k + 1, gr l (k + 1)) else cn l k
theorem cn_yes {l : List En} {k : Nat} {e : En} (h : l[k]? = some e) (h2 : gr l (k + 1) < (cn l k).2) : cn l (k + 1) = (k + 1, gr l (k + 1)) := by rw [cn, h]; simp only; rw [if_pos h2]
theorem cn_no {l : List En} {k : Nat} {e : En} (h : l[k]? = some e) (h2 : ¬ gr l (k + 1) < (cn l k).2) : cn l (k + 1) = cn l k := by rw [cn, h]; simp only; rw [if_neg h2]
theorem totw_small {l : List En} (h : tot l ≤ 4000000000000000000) : totw l = (tot l : Int) := wrap_small (by omega) (by omega)
theorem szw_small {e : En} (h : sz e ≤ 4000000000000000000) : szw e = (sz e : Int) := wrap_small (by omega) (by omega)
theorem tot_drop {l : List En} {k : Nat} {e : En} (h : l[k]? = some e) : tot (l.drop k) = sz e + tot (l.drop (k + 1)) := by
  obtain ⟨hk, he⟩ := List.getElem?_eq_some_iff.1 h
  rw [List.drop_eq_getElem_cons hk, tot_cons, he]
theorem cst_cn {l : List En} (h : tot l ≤ 4000000000000000000) : ∀ k, k ≤ l.length → cst l k = ⟨(cn l k).1, ((cn l k).2 : Int), (tot (l.take k) : Int), (tot (l.drop k) : Int)⟩
  | 0, _ => by rw [cst, totw_small h]; simp [cn, tot_nil]
  | k + 1, hk => by
    have ih := cst_cn h k (by omega)
    obtain ⟨e, he⟩ : ∃ e, l[k]? = some e := ⟨l[k]'(by omega), List.getElem?_eq_getElem (by omega)⟩
    have h1 := tot_take he
    have h2 := tot_drop he
    have h3 := tot_split l k
    have hz : szw e = (sz e : Int) := szw_small (by omega)
    have w1 : wrap64 ((cst l k).first + szw e) = (tot (l.take (k + 1)) : Int) := by rw [ih, hz, wrap_small] <;> simp only <;> omega
    have w2 : wrap64 ((cst l k).second - szw e) = (tot (l.drop (k + 1)) : Int) := by rw [ih, hz, wrap_small] <;> simp only <;> omega
    have hle : (cst l k).least = ((cn l k).2 : Int) := by rw [ih]
    have hat : (cst l k).at' = (cn l k).1 := by rw [ih]
    have hg : (if (tot (l.take (k + 1)) : Int) < (tot (l.drop (k + 1)) : Int) then (tot (l.drop (k + 1)) : Int) else (tot (l.take (k + 1)) : Int)) = (gr l (k + 1) : Int) := by
      unfold gr
      by_cases q : tot (l.take (k + 1)) < tot (l.drop (k + 1))
      · rw [if_pos q, if_pos (by omega)]
      · rw [if_neg q, if_neg (by omega)]
    by_cases hc : gr l (k + 1) < (cn l k).2
    · rw [cst_yes he (by rw [w1, w2, hg, hle]; omega), w1, w2, hg, cn_yes he hc]
    · rw [cst_no he (by rw [w1, w2, hg, hle]; omega), w1, w2, hle, hat, cn_no he hc]
theorem cutw_cn {l : List En} (h : tot l ≤ 4000000000000000000) : cutw l = (cn l (l.length - 1)).1 := by
  unfold cutw
  rw [cst_cn h _ (by omega)]
theorem gr_lt {l : List En} {k : Nat} (h1 : 1 ≤ k) (h2 : k < l.length) : gr l k < tot l := by
  have h3 := tot_split l k
  have h4 := tot_len (l.take k)
  have h5 := tot_len (l.drop k)
  rw [List.length_take] at h4
  rw [List.length_drop] at h5
  unfold gr
  split <;> omega
theorem cn_best {l : List En} : ∀ k, 1 ≤ k → k < l.length → 1 ≤ (cn l k).1 ∧ (cn l k).1 ≤ k ∧ (cn l k).2 = gr l (cn l k).1 ∧ ∀ i, 1 ≤ i → i ≤ k → (cn l k).2 ≤ gr l i
  | 0, h, _ => by omega
  | k + 1, _, hk => by
    obtain ⟨e, he⟩ : ∃ e, l[k]? = some e := ⟨l[k]'(by omega), List.getElem?_eq_getElem (by omega)⟩
    by_cases hk0 : k = 0
    · subst hk0
      have hc : gr l (0 + 1) < (cn l 0).2 := gr_lt (by omega) hk
      rw [cn_yes he hc]
      refine ⟨by simp, by simp, rfl, fun i h1 h2 => ?_⟩
      have : i = 1 := by omega
      subst this
      exact Nat.le_refl _
    · obtain ⟨a, b, c, d⟩ := cn_best (l := l) k (by omega) (by omega)
      by_cases hc : gr l (k + 1) < (cn l k).2
      · rw [cn_yes he hc]
        refine ⟨by simp, by simp, rfl, fun i h1 h2 => ?_⟩
        rcases Nat.lt_or_ge i (k + 1) with q | q
        · have := d i h1 (by omega); simp only; omega
        · have : i = k + 1 := by omega
          subst this; exact Nat.le_refl _
      · rw [cn_no he hc]
        refine ⟨a, by omega, c, fun i h1 h2 => ?_⟩
        rcases Nat.lt_or_ge i (k + 1) with q | q
        · exact d i h1 (by omega)
        · have : i = k + 1 := by omega
          subst this; omega
/-- a cut that fits -/
theorem fit_at {l : List En} (hl : 1 < l.length) (hs : ∀ e ∈ l, lng e = false) (ht : tot l ≤ 759) : ∃ i, 1 ≤ i ∧ i < l.length ∧ gr l i ≤ 507 := by
  have hsz : ∀ i e, l[i]? = some e → sz e ≤ 252 := fun i e he => by have := lng_sz (hs e (List.mem_of_getElem? he)); unfold sz; omega
  by_cases h0 : tot l ≤ 507
  · exact ⟨1, by omega, hl, by have := gr_lt (l := l) (k := 1) (by omega) hl; omega⟩
  · have key : ∀ k, k ≤ l.length → (tot (l.take k) ≤ 507 ∧ (k = 0 ∨ True)) ∨ ∃ i, 1 ≤ i ∧ i < l.length ∧ gr l i ≤ 507 := by
      intro k
      induction k with
      | zero => intro _; left; simp [tot_nil]
      | succ k ih =>
        intro hk
        rcases ih (by omega) with ⟨h1, _⟩ | h1
        · by_cases h2 : tot (l.take (k + 1)) ≤ 507
          · exact Or.inl ⟨h2, Or.inr trivial⟩
          · obtain ⟨e, he⟩ : ∃ e, l[k]? = some e := ⟨l[k]'(by omega), List.getElem?_eq_getElem (by omega)⟩
            have h3 := tot_take he
            have h4 := hsz k e he
            have h5 := tot_split l k
            right
            refine ⟨k, ?_, by omega, ?_⟩
            · rcases Nat.eq_zero_or_pos k with q | q
              · subst q; rw [List.take_zero, tot_nil] at h3; omega
              · exact q
            · unfold gr
              split <;> omega
        · exact Or.inr h1
    rcases key l.length (Nat.le_refl _) with ⟨h1, _⟩ | h1
    · rw [List.take_length] at h1; omega
    · exact h1
theorem cut_fits {l : List En} (hs : ∀ e ∈ l, lng e = false) (ht : tot l ≤ 759) : tot (l.take (cutw l)) ≤ 507 ∧ tot (l.drop (cutw l)) ≤ 507 ∧ (1 < l.length → 0 < cutw l ∧ cutw l < l.length) := by
  rw [cutw_cn (by omega)]
  by_cases hl : 1 < l.length
  · obtain ⟨a, b, c, d⟩ := cn_best (l := l) (l.length - 1) (by omega) (by omega)
    obtain ⟨i, h1, h2, h3⟩ := fit_at hl hs ht
    have h4 := d i h1 (by omega)
    rw [c] at h4
    have h5 : gr l (cn l (l.length - 1)).1 ≤ 507 := by omega
    generalize (cn l (l.length - 1)).1 = m at *
    unfold gr at h5
    refine ⟨?_, ?_, fun _ => ⟨by omega, by omega⟩⟩
    all_goals split at h5 <;> omega
  · have e : l.length - 1 = 0 := by omega
    rw [e]
    show tot (l.take l.length) ≤ 507 ∧ tot (l.drop l.length) ≤ 507 ∧ _
    rw [List.take_length, List.drop_length]
    refine ⟨?_, by simp [tot_nil], fun q => absurd q hl⟩
    have := tot_short hs
    omega
end Go.Proofs.Ytibmnpkmbhjniaa
