/- The document's Right. -/
import Derived.Test.YtcmmbdcflblekaaGreatDoorGm
namespace Go.Proofs.YtcmmbdcflblekaaGreatDoor
set_option maxRecDepth 100000
set_option linter.unusedVariables false
set_option linter.unusedSimpArgs false
open Go.RowKit
attribute [local go_sem ↓] Go.wp_at_zero Go.wp_at_succ ldQe stQe
theorem isum_step {L : List It} {k : Nat} {x : It} (h : L[k]? = some x) : isum (L.take (k + 1)) = isum (L.take k) + isz x := by
  unfold isum
  rw [List.take_add_one, h]
  simp
theorem isum_rng : ∀ L : List It, (∀ x ∈ L, RtJ x) → 0 ≤ isum L ∧ isum L ≤ 2000 * (L.length : Int)
  | [], _ => by simp [isum]
  | x :: L, h => by
    obtain ⟨_, z1, z2⟩ := rtj_sz (h x (by simp))
    have ih := isum_rng L (fun y hy => h y (by simp [hy]))
    have e : isum (x :: L) = isz x + isum L := by simp [isum]
    rw [e, List.length_cons]
    omega
theorem rtm_pw {m : Ma} (h : RtM m) {j k : Nat} {y x : It} (hjk : j < k) (hy : m.items[j]? = some y) (hx : m.items[k]? = some x) : bef y x ∧ ¬ y.seq = x.seq := by
  obtain ⟨h1, e1⟩ := List.getElem?_eq_some_iff.1 hy
  obtain ⟨h2, e2⟩ := List.getElem?_eq_some_iff.1 hx
  refine ⟨by have := List.pairwise_iff_getElem.1 h.srt j k h1 h2 hjk; rwa [e1, e2] at this, fun q => ?_⟩
  have := List.pairwise_iff_getElem.1 h.nod j k (by simpa using h1) (by simpa using h2) hjk
  simp [e1, e2, q] at this
/-- the first so many are right, in order, with numbers of their own -/
structure Upk (m : Ma) (k : Nat) : Prop where
  it : ∀ x ∈ m.items.take k, RtI m x
  pw : ∀ (i j : Nat) (y x : It), i < j → j < k → m.items[i]? = some y → m.items[j]? = some x → bef y x ∧ ¬ y.seq = x.seq
theorem Upk.next {m : Ma} {k : Nat} {x : It} (h : Upk m k) (hx : m.items[k]? = some x) (hr : RtI m x) (hj : ∀ (i : Nat) (y : It), i < k → m.items[i]? = some y → bef y x ∧ ¬ y.seq = x.seq) : Upk m (k + 1) := by
  refine ⟨fun y hy => ?_, fun i j y z hij hjk hy hz => ?_⟩
  · rw [List.take_add_one, hx] at hy
    rcases List.mem_append.1 hy with q | q
    · exact h.it y q
    · simp at q; subst q; exact hr
  · by_cases e : j = k
    · subst e
      rw [hx] at hz
      injection hz with hz
      subst hz
      exact hj i y hij hy
    · exact h.pw i j y z hij (by omega) hy hz
theorem Upk.rt {m : Ma} (h : Upk m m.items.length) (hh : 1 ≤ m.next ∧ m.next ≤ 1099511627777 ∧ 0 ≤ m.since ∧ m.since ≤ m.next ∧ m.items.length ≤ 256) (hs : isum m.items ≤ 65536) : RtM m := by
  have hit := h.it
  rw [List.take_length] at hit
  refine ⟨hh.1, hh.2.1, hh.2.2.1, hh.2.2.2.1, hh.2.2.2.2, hit, ?_, ?_, hs⟩
  · refine List.pairwise_iff_getElem.2 fun i j hi hj hij => ?_
    exact (h.pw i j _ _ hij hj (List.getElem?_eq_getElem hi) (List.getElem?_eq_getElem hj)).1
  · refine List.pairwise_iff_getElem.2 fun i j hi hj hij => ?_
    have := (h.pw i j _ _ hij (by simpa using hj) (List.getElem?_eq_getElem (by simpa using hi)) (List.getElem?_eq_getElem (by simpa using hj))).2
    simpa using this
theorem seq_tri {y x : It} : (y.seq = x.seq ∨ lt x.key y.key ∨ (y.key = x.key ∧ x.seq < y.seq)) ∨ (bef y x ∧ ¬ y.seq = x.seq) := by
  by_cases h1 : y.seq = x.seq
  · exact .inl (.inl h1)
  · rcases bef_tri y x with q | ⟨q, q2⟩ | q
    · exact .inr ⟨q, h1⟩
    · exact absurd q2 h1
    · rw [bef_iff] at q
      rcases q with q | ⟨q, q2⟩
      · exact .inl (.inr (.inl q))
      · exact .inl (.inr (.inr ⟨q.symm, q2⟩))
end Go.Proofs.YtcmmbdcflblekaaGreatDoor
