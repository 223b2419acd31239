/- StackApart: what its loops keep. -/
import Derived.Test.YtaonjmmdgfbceaaMrk
import Derived.Test.YtaonjmmdgfbceaaIin
namespace Go.Proofs.Ytaonjmmdgfbceaa
set_option linter.unusedVariables false
set_option linter.unusedSimpArgs false
open Go.RowKit
/-- a copy that lies within two bounds -/
def P1 (B lo hi : Nat) (w : World) (v : Value) (L : List Vs) : Prop := ∃ R, Fo B w v R ∧ R.map (·.v) = L ∧ (∀ r ∈ R, r.z = []) ∧ ∀ g, Tc v R g → lo ≤ g ∧ g < hi
theorem Cp.p1 {B lo : Nat} {w : World} {v : Value} {L : List Vs} (h : Cp lo w v L) (hB : B ≤ lo) : P1 B lo w.heap.size w v L := by
  obtain ⟨R, h1, h2, h3⟩ := h
  exact ⟨R, h1.base hB, h2, h3, fun g hg => h1.tc hg⟩
theorem P1.later {B lo hi : Nat} {w w' : World} {v : Value} {L : List Vs} (h : P1 B lo hi w v L) (hb : Below w.heap.size w w') : P1 B lo hi w' v L := by
  obtain ⟨R, h1, h2, h3, h4⟩ := h
  exact ⟨R, h1.later hb, h2, h3, h4⟩
theorem P1.cp {B lo hi : Nat} {w : World} {v : Value} {L : List Vs} (h : P1 B lo hi w v L) : Cp B w v L := by
  obtain ⟨R, h1, h2, h3, h4⟩ := h
  exact ⟨R, h1, h2, h3⟩
def V5 {α : Type} (a b c d e : α) : Nat → α
  | 0 => a
  | 1 => b
  | 2 => c
  | 3 => d
  | _ => e
/-- what the loops keep of the five lists -/
structure Kp (B : Nat) (w0 w : World) (ab : Nat) (V : Nat → Value) (R : Nat → List Rv) (M : Nat) : Prop where
  q : Q5 B w ab V R
  b : Below B w0 w
  z : ∀ i r, i < 5 → r ∈ R i → r.z = [] ∧ r.v.l.length ≤ M
theorem Kp.later {B : Nat} {w0 w w' : World} {ab : Nat} {V : Nat → Value} {R : Nat → List Rv} {M : Nat} (h : Kp B w0 w ab V R M) (hb : Below w.heap.size w w') : Kp B w0 w' ab V R M :=
  ⟨h.q.later hb, h.b.trans (hb.mono (h.q.fo 0 (by omega)).le), h.z⟩
theorem q5_of {w : World} {B l1 l2 l3 l4 l5 h1 h2 h3 h4 h5 : Nat} {a b c d e : Value} {A S : List Vs} (pa : P1 B l1 h1 w a A) (pb : P1 B l2 h2 w b A) (pc : P1 B l3 h3 w c S) (pd : P1 B l4 h4 w d S) (pe : P1 B l5 h5 w e S) (g1 : h1 ≤ l2) (g2 : h2 ≤ l3) (g3 : h3 ≤ l4) (g4 : h4 ≤ l5) (k1 : l1 ≤ h1) (k2 : l2 ≤ h2) (k3 : l3 ≤ h3) (k4 : l4 ≤ h4) :
    ∃ R, Q5 B (w.alloc (.cells #[a, b, c, d, e] 47)) w.heap.size (V5 a b c d e) R ∧ (∀ i, i < 5 → (R i).map (·.v) = V5 A A S S S i) ∧ ∀ i r, i < 5 → r ∈ R i → r.z = [] := by
  obtain ⟨R1, a1, a2, a3, a4⟩ := pa
  obtain ⟨R2, b1, b2, b3, b4⟩ := pb
  obtain ⟨R3, c1, c2, c3, c4⟩ := pc
  obtain ⟨R4, d1, d2, d3, d4⟩ := pd
  obtain ⟨R5, e1, e2, e3, e4⟩ := pe
  have hb := (Below.refl w.heap.size w).alloc (Nat.le_refl _) (.cells #[a, b, c, d, e] 47)
  refine ⟨V5 R1 R2 R3 R4 R5, ⟨fun i hi => ?_, fun i j hi hj hij g hg hg' => ?_, heap_alloc_new _ _, a1.le⟩, fun i hi => ?_, fun i r hi hr => ?_⟩
  · match i, hi with
    | 0, _ => exact a1.later hb
    | 1, _ => exact b1.later hb
    | 2, _ => exact c1.later hb
    | 3, _ => exact d1.later hb
    | 4, _ => exact e1.later hb
  · have key : ∀ i, i < 5 → Tc (V5 a b c d e i) (V5 R1 R2 R3 R4 R5 i) g → V5 l1 l2 l3 l4 l5 i ≤ g ∧ g < V5 h1 h2 h3 h4 h5 i := fun i hi hg => by
      match i, hi with
      | 0, _ => exact a4 g hg
      | 1, _ => exact b4 g hg
      | 2, _ => exact c4 g hg
      | 3, _ => exact d4 g hg
      | 4, _ => exact e4 g hg
    have mono : ∀ i j, i < j → j < 5 → V5 h1 h2 h3 h4 h5 i ≤ V5 l1 l2 l3 l4 l5 j := fun i j hij hj => by
      rcases (by omega : i = 0 ∨ i = 1 ∨ i = 2 ∨ i = 3) with rfl | rfl | rfl | rfl <;> rcases (by omega : j = 1 ∨ j = 2 ∨ j = 3 ∨ j = 4) with rfl | rfl | rfl | rfl <;> first | (exfalso; omega) | (simp only [V5]; omega)
    have x1 := key i hi hg
    have x2 := key j hj hg'
    rcases Nat.lt_or_gt_of_ne hij with q | q
    · have := mono i j q hj
      omega
    · have := mono j i q hi
      omega
  · match i, hi with
    | 0, _ => exact a2
    | 1, _ => exact b2
    | 2, _ => exact c2
    | 3, _ => exact d2
    | 4, _ => exact e2
  · match i, hi with
    | 0, _ => exact a3 r hr
    | 1, _ => exact b3 r hr
    | 2, _ => exact c3 r hr
    | 3, _ => exact d3 r hr
    | 4, _ => exact e3 r hr
theorem upd_self5 {V : Nat → Value} {i : Nat} : upd V i (V i) = V := by
  funext j
  unfold upd
  split
  · rename_i h; rw [h]
  · rfl
/-- one list's element changed in place: nothing else moves -/
theorem Kp.put {B : Nat} {w0 w w' : World} {ab : Nat} {V : Nat → Value} {R : Nat → List Rv} {M : Nat} (h : Kp B w0 w ab V R M) {i : Nat} (hi : i < 5) {R' : List Rv} (h1 : Fo B w' (V i) R') (hs : w.heap.size ≤ w'.heap.size) (hB : Below B w w')
    (h2 : ∀ g, g < w.heap.size → ¬ Tc (V i) (R i) g → w'.heap[g]? = w.heap[g]?) (h3 : ∀ g, Tc (V i) R' g → Tc (V i) (R i) g ∨ w.heap.size ≤ g) (hz : ∀ r ∈ R', r.z = [] ∧ r.v.l.length ≤ M) : Kp B w0 w' ab V (upd R i R') M := by
  have h4 := h.q.step hi h1 hs (fun g a b _ => h2 g a b) h3 (by rw [upd_self5, h2 ab (lt_of_block h.q.arr) (h.q.not hi)]; exact h.q.arr)
  rw [upd_self5] at h4
  refine ⟨h4, h.b.trans hB, fun j r hj hr => ?_⟩
  by_cases e : j = i
  · subst e
    rw [upd_same] at hr
    exact hz r hr
  · rw [upd_other _ _ _ _ e] at hr
    exact h.z j r hj hr
theorem mem_setR {R : List Rv} {k : Nat} {r' q : Rv} (h : q ∈ R.set k r') : q = r' ∨ q ∈ R := by
  rcases List.mem_or_eq_of_mem_set h with x | x
  · exact .inr x
  · exact .inl x
theorem heap_set2 {w : World} {mb i j : Nat} {x y : Value} {g : Nat} (h : ¬ g = mb) : ((w.setCell ⟨mb, i, none⟩ x).setCell ⟨mb, j, none⟩ y).heap[g]? = w.heap[g]? := by
  rw [heap_setCell_other _ _ _ _ (by intro q; exact h (by simpa using q)), heap_setCell_other _ _ _ _ (by intro q; exact h (by simpa using q))]
end Go.Proofs.Ytaonjmmdgfbceaa
