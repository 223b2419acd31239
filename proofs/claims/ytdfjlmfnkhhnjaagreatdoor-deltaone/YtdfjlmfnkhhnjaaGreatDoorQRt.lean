/- The document's Right. -/
import Derived.Test.YtdfjlmfnkhhnjaaGreatDoorGm
namespace Go.Proofs.YtdfjlmfnkhhnjaaGreatDoor
set_option maxRecDepth 100000
set_option linter.unusedVariables false
set_option linter.unusedSimpArgs false
open Go.RowKit
attribute [local go_sem ↓] Go.wp_at_zero Go.wp_at_succ ldQe stQe
/-- the first so many are right, in order, with numbers of their own -/
structure Upk (m : Ma) (k : Nat) : Prop where
  it : ∀ x ∈ m.items.take k, RtI m x
  pw : ∀ (i j : Nat) (y x : It), i < j → j < k → m.items[i]? = some y → m.items[j]? = some x → bef y x ∧ ¬ y.seq = x.seq
theorem Upk.next {m : Ma} {k : Nat} {x : It} (h : Upk m k) (hx : m.items[k]? = some x) (hr : RtI m x) (hj : ∀ (i : Nat) (y : It), i < k → m.items[i]? = some y → bef y x ∧ ¬ y.seq = x.seq) : Upk m (k + 1) := by
  refine ⟨fun y hy => ?_, fun i j y z hij hjk hy hz => ?_⟩
  · rw [List.take_add_one, hx] at hy
    rcases List.mem_append.1 hy with q | q
    · exact h.it y q
    · simp at q; subst q; exact hr
  · by_cases e : j = k
    · subst e
      rw [hx] at hz
      injection hz with hz
      subst hz
      exact hj i y hij hy
    · exact h.pw i j y z hij (by omega) hy hz
theorem Upk.rt {m : Ma} (h : Upk m m.items.length) (hh : 1 ≤ m.next ∧ m.next ≤ 1099511627777 ∧ 0 ≤ m.since ∧ m.since ≤ m.next ∧ m.items.length ≤ 256) (hs : isum m.items ≤ 65536) : RtM m := by
  have hit := h.it
  rw [List.take_length] at hit
  refine ⟨hh.1, hh.2.1, hh.2.2.1, hh.2.2.2.1, hh.2.2.2.2, hit, ?_, ?_, hs⟩
  · refine List.pairwise_iff_getElem.2 fun i j hi hj hij => ?_
    exact (h.pw i j _ _ hij hj (List.getElem?_eq_getElem hi) (List.getElem?_eq_getElem hj)).1
  · refine List.pairwise_iff_getElem.2 fun i j hi hj hij => ?_
    have := (h.pw i j _ _ hij (by simpa using hj) (List.getElem?_eq_getElem (by simpa using hi)) (List.getElem?_eq_getElem (by simpa using hj))).2
    simpa using this
end Go.Proofs.YtdfjlmfnkhhnjaaGreatDoor
