/- Lists of which the first k are changed; one cell of a row set. -/
import Derived.Test.YtahdndmmakdamaaStp
namespace Go.Proofs.Ytahdndmmakdamaa
set_option linter.unusedVariables false
set_option linter.unusedSimpArgs false
open Go.RowKit
/-- each of the first k changed -/
def bump (f : En → En) (l : List En) (k : Nat) : List En := (l.take k).map f ++ l.drop k
theorem bump_zero (f : En → En) (l : List En) : bump f l 0 = l := by simp [bump]
theorem bump_len (f : En → En) (l : List En) (k : Nat) : (bump f l k).length = l.length := by simp [bump]; omega
theorem bump_get {f : En → En} {l : List En} {k : Nat} {p : En} (h : l[k]? = some p) : (bump f l k)[k]? = some p := by
  have hk := (List.getElem?_eq_some_iff.1 h).1
  unfold bump
  rw [List.getElem?_append_right (by simp; omega), List.length_map, List.length_take, Nat.min_eq_left (by omega), Nat.sub_self, List.getElem?_drop]
  exact h
theorem bump_set {f : En → En} {l : List En} {k : Nat} {p : En} (h : l[k]? = some p) : (bump f l k).set k (f p) = bump f l (k + 1) := by
  obtain ⟨hk, hp⟩ := List.getElem?_eq_some_iff.1 h
  unfold bump
  rw [List.set_append_right _ _ (by simp; omega), List.length_map, List.length_take, Nat.min_eq_left (by omega), Nat.sub_self, List.drop_eq_getElem_cons hk, List.set_cons_zero, List.take_add_one, h, List.map_append, List.append_assoc]
  rfl
theorem bump_or {f : En → En} {l : List En} {k j : Nat} {e : En} (h : (bump f l k)[j]? = some e) : ∃ p, l[j]? = some p ∧ (e = p ∨ e = f p) := by
  have hj := (List.getElem?_eq_some_iff.1 h).1
  rw [bump_len] at hj
  unfold bump at h
  by_cases hjk : j < k
  · rw [List.getElem?_append_left (by simp; omega), List.getElem?_map, List.getElem?_take_of_lt hjk] at h
    cases hp : l[j]? with
    | none => rw [hp] at h; cases h
    | some p => rw [hp] at h; simp at h; exact ⟨p, rfl, .inr h.symm⟩
  · by_cases hk : k ≤ l.length
    · rw [List.getElem?_append_right (by simp; omega), List.length_map, List.length_take, Nat.min_eq_left hk, List.getElem?_drop, show k + (j - k) = j by omega] at h
      exact ⟨e, h, .inl rfl⟩
    · omega
theorem pcells_val (l : List En) (i : Nat) (p : En) (v : List UInt8) (hi : l[i]? = some p) : pcells (l.set i ⟨p.key, v⟩) = (pcells l).set (i * 2 + 1) (str v) := by
  have hlt := (List.getElem?_eq_some_iff.1 hi).1
  rw [pcells_set l i ⟨p.key, v⟩ hlt]
  congr 1
  obtain ⟨c0, _⟩ := pcells_get hi
  obtain ⟨h1, h2⟩ := List.getElem?_eq_some_iff.1 c0
  rw [← h2, List.set_getElem_self]
theorem pcells_key (l : List En) (i : Nat) (p : En) (v : List UInt8) (hi : l[i]? = some p) : pcells (l.set i ⟨v, p.val⟩) = (pcells l).set (i * 2) (str v) := by
  have hlt := (List.getElem?_eq_some_iff.1 hi).1
  rw [pcells_set l i ⟨v, p.val⟩ hlt, List.set_comm _ _ (by omega)]
  congr 1
  obtain ⟨_, c1⟩ := pcells_get hi
  obtain ⟨h1, h2⟩ := List.getElem?_eq_some_iff.1 c1
  rw [← h2, List.set_getElem_self]
theorem Ow.val {base : Nat} {w : World} {g cap n : Nat} {l : List En} (h : Ow base w (.slice (some ⟨g, 0, none⟩) n cap) l) (hn : l.length = n) {i : Nat} {p : En} (hi : l[i]? = some p) (v : List UInt8) : Ow base (w.setCell ⟨g, i * 2 + 1, none⟩ (str v)) (.slice (some ⟨g, 0, none⟩) n cap) (l.set i ⟨p.key, v⟩) := by
  subst hn
  have hlt := (List.getElem?_eq_some_iff.1 hi).1
  refine ⟨?_, by simpa using h.le⟩
  rw [pcells_val l i p v hi, List.length_set]
  exact own_cell h.own _ (by rw [pcells_length]; omega) _
theorem Ow.key {base : Nat} {w : World} {g cap n : Nat} {l : List En} (h : Ow base w (.slice (some ⟨g, 0, none⟩) n cap) l) (hn : l.length = n) {i : Nat} {p : En} (hi : l[i]? = some p) (v : List UInt8) : Ow base (w.setCell ⟨g, i * 2, none⟩ (str v)) (.slice (some ⟨g, 0, none⟩) n cap) (l.set i ⟨v, p.val⟩) := by
  subst hn
  have hlt := (List.getElem?_eq_some_iff.1 hi).1
  refine ⟨?_, by simpa using h.le⟩
  rw [pcells_key l i p v hi, List.length_set]
  exact own_cell h.own _ (by rw [pcells_length]; omega) _
theorem below_set {B : Nat} {w0 w : World} (h : Below B w0 w) {g j : Nat} (hg : B ≤ g) (v : Value) : Below B w0 (w.setCell ⟨g, j, none⟩ v) := h.setCell hg v
end Go.Proofs.Ytahdndmmakdamaa
