/- PageApart: the books' block, the lists at each step. -/
import Derived.Test.YtibmnpkmbhjniaaTld
namespace Go.Proofs.Ytibmnpkmbhjniaa
set_option linter.unusedVariables false
set_option linter.unusedSimpArgs false
open Go.RowKit
abbrev qm : En := ⟨[109, 97, 114, 107, 101, 100], [109, 97, 114, 107, 101, 100]⟩
abbrev qg : En := ⟨[103, 114, 111, 119, 110], []⟩
theorem Bk.cell {w : World} {R : Nat} {u : Nat → Value} (h : Bk w R u) (j : Nat) (hj : j < 15) : w.cell? ⟨R, j, none⟩ = some (u j) ∧ w.frozen? ⟨R, j, none⟩ = false := by
  obtain ⟨cs, h1, h2, h3⟩ := h.has
  exact ⟨by rw [cell_of_row _ _ _ _ _ _ h1]; exact h3 j hj, frozen_of_row _ _ _ _ _ h1⟩
theorem Bk.lt {w : World} {R : Nat} {u : Nat → Value} (h : Bk w R u) : R < w.heap.size := by
  obtain ⟨cs, h1, h2, h3⟩ := h.has
  rcases Nat.lt_or_ge R w.heap.size with q | q
  · exact q
  · rw [Array.getElem?_eq_none q] at h1; cases h1
theorem Bk.same {w w' : World} {R : Nat} {u : Nat → Value} (h : Bk w R u) (e : w'.heap[R]? = w.heap[R]?) : Bk w' R u := by
  obtain ⟨cs, h1, h2, h3⟩ := h.has
  exact ⟨cs, e.trans h1, h2, h3⟩
theorem Bk.later {w w' : World} {R : Nat} {u : Nat → Value} (h : Bk w R u) (hb : Below w.heap.size w w') : Bk w' R u := h.same (hb.block _ h.lt)
/-- no row's block is the books' -/
theorem Bk.ne {w : World} {R : Nat} {u : Nat → Value} (h : Bk w R u) {B : Nat} {v : Value} {l : List En} (o : Ow B w v l) : v.ownBlock ≠ some R := fun q => by
  obtain ⟨cs, h1, h2, h3⟩ := h.has
  obtain ⟨c2, h4⟩ := o.type q
  rw [h1] at h4
  injection h4 with h4
  injection h4 with _ h4
  exact absurd h4 (by decide)
theorem Bk.store {w : World} {R : Nat} {u : Nat → Value} (h : Bk w R u) (j : Nat) (hj : j < 15) (x : Value) : Bk (w.setCell ⟨R, j, none⟩ x) R (upd u j x) := by
  obtain ⟨cs, h1, h2, h3⟩ := h.has
  refine ⟨_, heap_setCell_same _ _ _ _ _ _ h1, by simpa using h2, fun i hi => ?_⟩
  rw [Array.getElem?_setIfInBounds]
  by_cases e : j = i
  · subst e; rw [if_pos rfl, if_pos (by omega), upd_same]
  · rw [if_neg e, upd_other _ _ _ _ (fun q => e q.symm)]; exact h3 i hi
theorem Rs.storeB {B : Nat} {w : World} {n : Nat} {v : Nat → Value} {X : Nat → List En} (h : Rs B w n v X) {R : Nat} {u : Nat → Value} (hk : Bk w R u) (j : Nat) (x : Value) : Rs B (w.setCell ⟨R, j, none⟩ x) n v X := by
  obtain ⟨cs, h1, h2, h3⟩ := hk.has
  exact h.store h1 (by decide) j x
/-- marked: all of the first k -/
def X1 (TV : Nat → List En) (k : Nat) : Nat → List En := fun j => if j % 3 = 0 ∧ j / 3 < k then List.replicate (TV (j / 3)).length qm else TV (j / 3)
/-- a list that was marked and has grown -/
def grw (l : List En) (m : Nat) : List En := List.replicate l.length qm ++ List.replicate m qg
theorem grw_len (l : List En) (m : Nat) : (grw l m).length = l.length + m := by simp [grw]
theorem grw_snoc (l : List En) (m : Nat) : grw l m ++ [qg] = grw l (m + 1) := by simp [grw, List.replicate_succ']
theorem grw_lo (l : List En) (m i : Nat) (h : i < l.length) : (grw l m)[i]? = some qm := by unfold grw; rw [List.getElem?_append_left (by simpa using h), List.getElem?_replicate, if_pos h]
theorem grw_hi (l : List En) (m i : Nat) (h : l.length ≤ i) (h2 : i < l.length + m) : (grw l m)[i]? = some qg := by
  unfold grw
  rw [List.getElem?_append_right (by simpa using h), List.length_replicate, List.getElem?_replicate, if_pos (by omega)]
def X2 (TV : Nat → List En) (k : Nat) : Nat → List En := fun j => if j % 3 = 0 then (if j / 3 < k then grw (TV (j / 3)) 10 else grw (TV (j / 3)) 0) else TV (j / 3)
theorem X1_zero (TV : Nat → List En) (j : Nat) : X1 TV 0 j = TV (j / 3) := by simp [X1]
theorem X1_at (TV : Nat → List En) (k : Nat) : X1 TV k (k * 3) = TV k := by unfold X1; rw [if_neg (by omega), show k * 3 / 3 = k by omega]
theorem X1_next (TV : Nat → List En) (k j : Nat) : X1 TV (k + 1) j = upd (X1 TV k) (k * 3) (List.replicate (TV k).length qm) j := by
  by_cases e : j = k * 3
  · subst e; rw [upd_same]; unfold X1; rw [if_pos (by omega), show k * 3 / 3 = k by omega]
  · rw [upd_other _ _ _ _ e]; unfold X1
    by_cases h : j % 3 = 0 ∧ j / 3 < k
    · rw [if_pos h, if_pos (by omega)]
    · rw [if_neg h, if_neg (by omega)]
theorem X2_zero (TV : Nat → List En) (j : Nat) (hj : j < 15) : X2 TV 0 j = X1 TV 5 j := by
  unfold X1 X2
  by_cases h : j % 3 = 0
  · rw [if_pos h, if_neg (by omega), if_pos (by omega)]; simp [grw]
  · rw [if_neg h, if_neg (by omega)]
theorem X2_at (TV : Nat → List En) (k : Nat) : X2 TV k (k * 3) = grw (TV k) 0 := by unfold X2; rw [if_pos (by omega), if_neg (by omega), show k * 3 / 3 = k by omega]
theorem X2_next (TV : Nat → List En) (k j : Nat) : X2 TV (k + 1) j = upd (X2 TV k) (k * 3) (grw (TV k) 10) j := by
  by_cases e : j = k * 3
  · subst e; rw [upd_same]; unfold X2; rw [if_pos (by omega), if_pos (by omega), show k * 3 / 3 = k by omega]
  · rw [upd_other _ _ _ _ e]; unfold X2
    by_cases h : j % 3 = 0
    · rw [if_pos h, if_pos h]
      by_cases h2 : j / 3 < k
      · rw [if_pos h2, if_pos (by omega)]
      · rw [if_neg h2, if_neg (by omega)]
    · rw [if_neg h, if_neg h]
theorem X2_full (TV : Nat → List En) (k : Nat) (h : k < 5) : X2 TV 5 (k * 3) = grw (TV k) 10 := by unfold X2; rw [if_pos (by omega), if_pos (by omega), show k * 3 / 3 = k by omega]
theorem X2_one (TV : Nat → List En) (k : Nat) : X2 TV 5 (k * 3 + 1) = TV k := by unfold X2; rw [if_neg (by omega), show (k * 3 + 1) / 3 = k by omega]
theorem X2_two (TV : Nat → List En) (k : Nat) : X2 TV 5 (k * 3 + 2) = TV k := by unfold X2; rw [if_neg (by omega), show (k * 3 + 2) / 3 = k by omega]
theorem upd_upd {α : Type} (f : Nat → α) (i : Nat) (x y : α) : upd (upd f i x) i y = upd f i y := by
  funext j; unfold upd; split <;> rfl
theorem upd_self {α : Type} (f : Nat → α) (i : Nat) : upd f i (f i) = f := by
  funext j; unfold upd; split <;> simp_all
/-- a mark in the row of the k-th book -/
theorem Rs.mark {B : Nat} {w : World} {u : Nat → Value} {X : Nat → List En} {l : List En} {k m g cap : Nat} (h : Rs B w 15 u (upd X (k * 3) (mkd qm l m))) (hk : k < 5) (hm : m < l.length) (hv : u (k * 3) = .slice (some ⟨g, 0, none⟩) l.length cap) :
    Rs B ((w.setCell ⟨g, m * 2, none⟩ (str qm.key)).setCell ⟨g, m * 2 + 1, none⟩ (str qm.val)) 15 u (upd X (k * 3) (mkd qm l (m + 1))) := by
  have hl := mkd_len qm l m (by omega)
  have e : upd X (k * 3) (mkd qm l m) (k * 3) = mkd qm l m := upd_same _ _ _
  have := h.set (k * 3) (by omega) (g := g) (cap := cap) (by rw [e, hl]; exact hv) m (by rw [e, hl]; exact hm) qm
  rw [e, mkd_set qm l m hm, upd_upd] at this
  exact this
end Go.Proofs.Ytibmnpkmbhjniaa
