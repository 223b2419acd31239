/- Rows of versions of one's own that lie apart: set, grown, kept. -/
import Derived.Test.YtaonjmmdgfbceaaTol
namespace Go.Proofs.Ytaonjmmdgfbceaa
set_option linter.unusedVariables false
set_option linter.unusedSimpArgs false
open Go.RowKit
theorem own_cellT {w : World} {base g cap n s : Nat} {t : TypeId} {xs : List Value} (h : w.ownsRow base t s (.slice (some ⟨g, 0, none⟩) n cap) n xs) (j : Nat) (u : Value) : (w.setCell ⟨g, j, none⟩ u).ownsRow base t s (.slice (some ⟨g, 0, none⟩) n cap) n (xs.set j u) := by
  refine ⟨by rw [List.length_set]; exact h.1, ?_⟩
  rcases h.2 with ⟨e, _⟩ | ⟨g', cap', cur, e, h2, h3, h4, h5, h6, h7⟩
  · cases e
  · injection e with e1 e2 e3
    injection e1 with e1
    injection e1 with e1
    subst e1 e3
    refine Or.inr ⟨g, cap, _, rfl, h2, heap_setCell_same _ _ _ _ _ _ h3, h4, h5, by rw [Array.size_setIfInBounds]; exact h6, ?_⟩
    rw [Array.toList_setIfInBounds, ← h7, List.take_set]
theorem pcells_set (l : List En) (i : Nat) (p : En) (hi : i < l.length) : pcells (l.set i p) = ((pcells l).set (i * 2) (str p.key)).set (i * 2 + 1) (str p.val) := by
  induction l generalizing i with
  | nil => simp at hi
  | cons q l ih =>
    cases i with
    | zero => simp [pcells, pcs]
    | succ i =>
      have := ih i (by simpa using hi)
      have e : ∀ x : List En, pcells (q :: x) = pcs q ++ pcells x := fun x => by simp [pcells]
      rw [List.set_cons_succ, e, e, this]
      simp [pcs, show (i + 1) * 2 = i * 2 + 1 + 1 by omega]
theorem rcells_cons (q : Rv) (l : List Rv) : rcells (q :: l) = rcs q ++ rcells l := by simp [rcells]
theorem rcells_set3 : ∀ (R : List Rv) (k : Nat) (r : Rv) (d : List UInt8), R[k]? = some r → rcells (R.set k { r with v := { r.v with data := d } }) = (rcells R).set (k * 5 + 3) (str d)
  | [], k, r, d, h => by simp at h
  | q :: l, 0, r, d, h => by
    simp at h
    subst h
    rw [List.set_cons_zero, rcells_cons, rcells_cons]
    simp [rcs]
  | q :: l, k + 1, r, d, h => by
    have := rcells_set3 l k r d (by simpa using h)
    rw [List.set_cons_succ, rcells_cons, rcells_cons, this]
    simp [rcs, show (k + 1) * 5 + 3 = k * 5 + 3 + 1 + 1 + 1 + 1 + 1 by omega]
theorem rcells_set4 : ∀ (R : List Rv) (k : Nat) (r : Rv) (l' : List En) (a : Option Addr) (c : Nat) (z : List En), R[k]? = some r → rcells (R.set k ⟨{ r.v with l := l' }, z, a, c⟩) = (rcells R).set (k * 5 + 4) (.slice a l'.length c)
  | [], k, r, l', a, c, z, h => by simp at h
  | q :: l, 0, r, l', a, c, z, h => by
    simp at h
    subst h
    rw [List.set_cons_zero, rcells_cons, rcells_cons]
    simp [rcs]
  | q :: l, k + 1, r, l', a, c, z, h => by
    have := rcells_set4 l k r l' a c z (by simpa using h)
    rw [List.set_cons_succ, rcells_cons, rcells_cons, this]
    simp [rcs, show (k + 1) * 5 + 4 = k * 5 + 4 + 1 + 1 + 1 + 1 + 1 by omega]
theorem rcells_setl : ∀ (R : List Rv) (k : Nat) (r : Rv) (l' : List En), R[k]? = some r → l'.length = r.v.l.length → rcells (R.set k { r with v := { r.v with l := l' } }) = rcells R
  | [], k, r, l', h, _ => by simp at h
  | q :: l, 0, r, l', h, e => by
    simp at h
    subst h
    rw [List.set_cons_zero, rcells_cons, rcells_cons]
    simp [rcs, e]
  | q :: l, k + 1, r, l', h, e => by
    rw [List.set_cons_succ, rcells_cons, rcells_cons, rcells_setl l k r l' (by simpa using h) e]
/-- the blocks of a row of versions -/
def Tc (v : Value) (R : List Rv) (g : Nat) : Prop := v.ownBlock = some g ∨ ∃ (k : Nat) (r : Rv), R[k]? = some r ∧ r.mv.ownBlock = some g
theorem Fo.tc {B : Nat} {w : World} {v : Value} {R : List Rv} (h : Fo B w v R) {g : Nat} (ht : Tc v R g) : B ≤ g ∧ g < w.heap.size := by
  rcases ht with q | ⟨k, r, h1, h2⟩
  · exact h.own.lt g q
  · exact (h.met k r h1).own.lt g h2
theorem Fo.frame {B : Nat} {w w' : World} {v : Value} {R : List Rv} (h : Fo B w v R) (hs : w.heap.size ≤ w'.heap.size) (hx : ∀ g, Tc v R g → w'.heap[g]? = w.heap[g]?) : Fo B w' v R :=
  ⟨own_same h.own (fun g hg => hx g (.inl hg)), Nat.le_trans h.le hs, fun k r hk => (h.met k r hk).same hs (fun g hg => hx g (.inr ⟨k, r, hk, hg⟩)), h.par⟩
theorem Fo.vm {B : Nat} {w : World} {v : Value} {R : List Rv} (h : Fo B w v R) {k : Nat} {r : Rv} (hk : R[k]? = some r) {g : Nat} (hg : v.ownBlock = some g) : r.mv.ownBlock ≠ some g := own_apart h.own (h.met k r hk).own (by decide) hg
theorem Fo.mv {B : Nat} {w : World} {v : Value} {R : List Rv} (h : Fo B w v R) {k : Nat} {r : Rv} (hk : R[k]? = some r) {g : Nat} (hg : r.mv.ownBlock = some g) : v.ownBlock ≠ some g := own_apart (h.met k r hk).own h.own (by decide) hg
theorem set_get {R : List Rv} {k j : Nat} {r' q : Rv} (h : (R.set k r')[j]? = some q) : (j = k ∧ q = r') ∨ (¬ j = k ∧ R[j]? = some q) := by
  by_cases e : j = k
  · subst e
    have hl := (List.getElem?_eq_some_iff.1 h).1
    rw [List.getElem?_set_self (by simpa using hl)] at h
    injection h with h
    exact .inl ⟨rfl, h.symm⟩
  · rw [List.getElem?_set_ne (fun q => e q.symm)] at h
    exact .inr ⟨e, h⟩
/-- a version's data set -/
theorem Fo.setData {B : Nat} {w : World} {g cap n : Nat} {R : List Rv} (h : Fo B w (.slice (some ⟨g, 0, none⟩) n cap) R) (hn : n = R.length) {k : Nat} {r : Rv} (hk : R[k]? = some r) (d : List UInt8) :
    Fo B (w.setCell ⟨g, k * 5 + 3, none⟩ (str d)) (.slice (some ⟨g, 0, none⟩) n cap) (R.set k { r with v := { r.v with data := d } }) := by
  subst hn
  refine ⟨?_, by simpa using h.le, fun j q hq => ?_, fun i j q q' hij hq hq' b hb => ?_⟩
  · rw [List.length_set, rcells_set3 R k r d hk]
    exact own_cellT h.own _ _
  · rcases set_get hq with ⟨rfl, rfl⟩ | ⟨_, hq⟩
    · exact (h.met j r hk).other (h.vm hk rfl) _
    · exact (h.met j q hq).other (h.vm hq rfl) _
  · rcases set_get hq with ⟨rfl, rfl⟩ | ⟨_, hq1⟩
    · rcases set_get hq' with ⟨rfl, rfl⟩ | ⟨_, hq'⟩
      · exact absurd rfl hij
      · exact h.par i j r q' hij hk hq' b hb
    · rcases set_get hq' with ⟨rfl, rfl⟩ | ⟨_, hq'⟩
      · exact h.par i j q r hij hq1 hk b hb
      · exact h.par i j q q' hij hq1 hq' b hb
/-- a pair set -/
theorem Fo.setPair {B : Nat} {w : World} {v : Value} {R : List Rv} (h : Fo B w v R) {k : Nat} {r : Rv} (hk : R[k]? = some r) (hz : r.z = []) {mb n : Nat} (ha : r.a = some ⟨mb, 0, none⟩) (hn : n < r.v.l.length) (p : En) :
    Fo B ((w.setCell ⟨mb, n * 2, none⟩ (str p.key)).setCell ⟨mb, n * 2 + 1, none⟩ (str p.val)) v (R.set k { r with v := { r.v with l := r.v.l.set n p } }) := by
  have hb : r.mv.ownBlock = some mb := by unfold Rv.mv; rw [ha]; rfl
  have hlen : (r.v.l.set n p).length = r.v.l.length := List.length_set
  have hmv : ({ r with v := { r.v with l := r.v.l.set n p } } : Rv).mv = r.mv := by unfold Rv.mv; simp
  refine ⟨?_, by simpa using h.le, fun j q hq => ?_, fun i j q q' hij hq hq' b hb2 => ?_⟩
  · rw [List.length_set, rcells_setl R k r _ hk hlen]
    exact ownsRow_setCell_other (ownsRow_setCell_other h.own (a := ⟨mb, _, none⟩) (h.mv hk hb) _) (a := ⟨mb, _, none⟩) (h.mv hk hb) _
  · rcases set_get hq with ⟨rfl, rfl⟩ | ⟨hj, hq⟩
    · have ho := h.met j r hk
      refine ⟨?_, by simpa using ho.le⟩
      have ho := ho.own
      rw [hmv]
      have hm : r.mv = .slice (some ⟨mb, 0, none⟩) r.v.l.length r.c := by unfold Rv.mv; rw [ha, hz]; rfl
      rw [hm, hz, List.append_nil] at ho
      show World.ownsRow _ B 50 2 r.mv ((r.v.l.set n p) ++ r.z).length (pcells ((r.v.l.set n p) ++ r.z))
      rw [hm, hz, List.append_nil, hlen, pcells_set _ _ _ hn]
      exact own_cellT (own_cellT ho _ _) _ _
    · have hne := h.par k j r q (fun e => hj e.symm) hk hq mb hb
      exact ((h.met j q hq).other hne _).other hne _
  · rcases set_get hq with ⟨rfl, rfl⟩ | ⟨_, hq1⟩
    · rw [hmv] at hb2
      rcases set_get hq' with ⟨rfl, rfl⟩ | ⟨_, hq'⟩
      · exact absurd rfl hij
      · exact h.par i j r q' hij hk hq' b hb2
    · rcases set_get hq' with ⟨rfl, rfl⟩ | ⟨_, hq'⟩
      · rw [hmv]
        exact h.par i j q r hij hq1 hk b hb2
      · exact h.par i j q q' hij hq1 hq' b hb2
/-- a version's pairs grown -/
theorem Fo.setMeta {B : Nat} {w w' : World} {g cap n : Nat} {R : List Rv} (h : Fo B w (.slice (some ⟨g, 0, none⟩) n cap) R) (hn : n = R.length) {k : Nat} {r : Rv} (hk : R[k]? = some r) {g' c' : Nat} {l' : List En}
    (ho : Ow B w' (.slice (some ⟨g', 0, none⟩) l'.length c') l') (hs : w.heap.size ≤ w'.heap.size) (hf : ∀ b, b < w.heap.size → r.mv.ownBlock ≠ some b → w'.heap[b]? = w.heap[b]?) (hg : r.mv.ownBlock = some g' ∨ w.heap.size ≤ g') :
    Fo B (w'.setCell ⟨g, k * 5 + 4, none⟩ (.slice (some ⟨g', 0, none⟩) l'.length c')) (.slice (some ⟨g, 0, none⟩) n cap) (R.set k ⟨{ r.v with l := l' }, [], some ⟨g', 0, none⟩, c'⟩) := by
  subst hn
  have hgB := h.own.lt g rfl
  have hgg : g' ≠ g := by
    rintro rfl
    rcases hg with q | q
    · exact h.vm hk rfl q
    · omega
  have h1 : w'.ownsRow B 33 5 (.slice (some ⟨g, 0, none⟩) R.length cap) R.length (rcells R) := own_same h.own (fun b hb => hf b (h.own.lt b hb).2 (h.vm hk hb))
  refine ⟨?_, by have := h.le; simp; omega, fun j q hq => ?_, fun i j q q' hij hq hq' b hb => ?_⟩
  · rw [List.length_set, rcells_set4 R k r l' _ c' [] hk]
    exact own_cellT h1 _ _
  · rcases set_get hq with ⟨rfl, rfl⟩ | ⟨hj, hq⟩
    · have : Ow B (w'.setCell ⟨g, j * 5 + 4, none⟩ (.slice (some ⟨g', 0, none⟩) l'.length c')) (.slice (some ⟨g', 0, none⟩) l'.length c') l' := ho.other (by intro q; injection q with q; exact hgg q) _
      simpa [Rv.mv] using this
    · have hm := h.met j q hq
      have hm' : Ow B w' q.mv (q.v.l ++ q.z) := hm.same hs (fun b hb => hf b (hm.own.lt b hb).2 (h.par j k q r hj hq hk b hb))
      exact hm'.other (h.vm hq rfl) _
  · have key : ∀ (j : Nat) (q : Rv), ¬ j = k → R[j]? = some q → q.mv.ownBlock ≠ some g' := fun j q hj hq e => by
      rcases hg with x | x
      · exact h.par j k q r hj hq hk g' e x
      · have := ((h.met j q hq).own.lt g' e).2
        omega
    rcases set_get hq with ⟨rfl, rfl⟩ | ⟨hi, hq1⟩
    · have e : b = g' := by simpa [Rv.mv, Value.ownBlock] using hb.symm
      subst e
      rcases set_get hq' with ⟨rfl, rfl⟩ | ⟨hj, hq'⟩
      · exact absurd rfl hij
      · exact key j q' hj hq'
    · rcases set_get hq' with ⟨rfl, rfl⟩ | ⟨_, hq'⟩
      · intro e
        have e : b = g' := by simpa [Rv.mv, Value.ownBlock] using e.symm
        subst e
        exact key i q hi hq1 hb
      · exact h.par i j q q' hij hq1 hq' b hb
theorem tc_set {v : Value} {R : List Rv} {k : Nat} {r r' : Rv} (hk : R[k]? = some r) {g s : Nat} (hr : ∀ b, r'.mv.ownBlock = some b → r.mv.ownBlock = some b ∨ s ≤ b) (h : Tc v (R.set k r') g) : Tc v R g ∨ s ≤ g := by
  rcases h with q | ⟨j, x, h1, h2⟩
  · exact .inl (.inl q)
  · rcases set_get h1 with ⟨rfl, rfl⟩ | ⟨_, h1⟩
    · rcases hr g h2 with q | q
      · exact .inl (.inr ⟨j, r, hk, q⟩)
      · exact .inr q
    · exact .inl (.inr ⟨j, x, h1, h2⟩)
/-- five rows that lie apart, and the array of them -/
structure Q5 (B : Nat) (w : World) (ab : Nat) (V : Nat → Value) (R : Nat → List Rv) : Prop where
  fo : ∀ i, i < 5 → Fo B w (V i) (R i)
  sep : ∀ i j, i < 5 → j < 5 → ¬ i = j → ∀ g, Tc (V i) (R i) g → ¬ Tc (V j) (R j) g
  arr : w.heap[ab]? = some (.cells #[V 0, V 1, V 2, V 3, V 4] 47 (0, 0))
  low : B ≤ ab
theorem Q5.later {B : Nat} {w w' : World} {ab : Nat} {V : Nat → Value} {R : Nat → List Rv} (h : Q5 B w ab V R) (hb : Below w.heap.size w w') : Q5 B w' ab V R :=
  ⟨fun i hi => (h.fo i hi).later hb, h.sep, by rw [hb.block ab (lt_of_block h.arr)]; exact h.arr, h.low⟩
def upd {α : Type} (f : Nat → α) (i : Nat) (x : α) : Nat → α := fun j => if j = i then x else f j
theorem upd_same {α : Type} (f : Nat → α) (i : Nat) (x : α) : upd f i x i = x := by simp [upd]
theorem upd_other {α : Type} (f : Nat → α) (i j : Nat) (x : α) (h : ¬ j = i) : upd f i x j = f j := by simp [upd, h]
theorem Q5.not {B : Nat} {w : World} {ab : Nat} {V : Nat → Value} {R : Nat → List Rv} (h : Q5 B w ab V R) {i : Nat} (hi : i < 5) : ¬ Tc (V i) (R i) ab := fun q => by
  rcases q with q | ⟨k, r, h1, h2⟩
  · obtain ⟨cs, e⟩ := own_type (h.fo i hi).own q
    rw [h.arr] at e
    injection e with e
    injection e with _ e
    exact absurd e (by decide)
  · obtain ⟨cs, e⟩ := ((h.fo i hi).met k r h1).type h2
    rw [h.arr] at e
    injection e with e
    injection e with _ e
    exact absurd e (by decide)
theorem Q5.step {B : Nat} {w w' : World} {ab : Nat} {V : Nat → Value} {R : Nat → List Rv} (h : Q5 B w ab V R) {i : Nat} (hi : i < 5) {v' : Value} {R' : List Rv} (h1 : Fo B w' v' R') (hs : w.heap.size ≤ w'.heap.size)
    (h2 : ∀ g, g < w.heap.size → ¬ Tc (V i) (R i) g → ¬ g = ab → w'.heap[g]? = w.heap[g]?) (h3 : ∀ g, Tc v' R' g → Tc (V i) (R i) g ∨ w.heap.size ≤ g)
    (h4 : w'.heap[ab]? = some (.cells #[upd V i v' 0, upd V i v' 1, upd V i v' 2, upd V i v' 3, upd V i v' 4] 47 (0, 0))) : Q5 B w' ab (upd V i v') (upd R i R') := by
  refine ⟨fun j hj => ?_, fun j k hj hk hjk g hg hg' => ?_, h4, h.low⟩
  · by_cases e : j = i
    · subst e
      rw [upd_same, upd_same]; exact h1
    · rw [upd_other _ _ _ _ e, upd_other _ _ _ _ e]
      exact (h.fo j hj).frame hs (fun g hg => h2 g ((h.fo j hj).tc hg).2 (h.sep j i hj hi e g hg) (fun q => h.not hj (q ▸ hg)))
  · by_cases e : j = i
    · subst e
      rw [upd_same, upd_same] at hg
      have hkj : ¬ k = j := fun q => hjk q.symm
      rw [upd_other _ _ _ _ hkj, upd_other _ _ _ _ hkj] at hg'
      rcases h3 g hg with q | q
      · exact h.sep j k hj hk hjk g q hg'
      · have := ((h.fo k hk).tc hg').2
        omega
    · rw [upd_other _ _ _ _ e, upd_other _ _ _ _ e] at hg
      by_cases e2 : k = i
      · subst e2
        rw [upd_same, upd_same] at hg'
        rcases h3 g hg' with q | q
        · exact h.sep j k hj hk hjk g hg q
        · have := ((h.fo j hj).tc hg).2
          omega
      · rw [upd_other _ _ _ _ e2, upd_other _ _ _ _ e2] at hg'
        exact h.sep j k hj hk hjk g hg hg'
theorem Q5.congr {B : Nat} {w : World} {ab : Nat} {V V' : Nat → Value} {R R' : Nat → List Rv} (h : Q5 B w ab V R) (hV : ∀ i, i < 5 → V' i = V i) (hR : ∀ i, i < 5 → R' i = R i) : Q5 B w ab V' R' :=
  ⟨fun i hi => by rw [hV i hi, hR i hi]; exact h.fo i hi, fun i j hi hj => by rw [hV i hi, hR i hi, hV j hj, hR j hj]; exact h.sep i j hi hj, by rw [hV 0 (by omega), hV 1 (by omega), hV 2 (by omega), hV 3 (by omega), hV 4 (by omega)]; exact h.arr, h.low⟩
theorem Q5.cell {B : Nat} {w : World} {ab : Nat} {V : Nat → Value} {R : Nat → List Rv} (h : Q5 B w ab V R) {i : Nat} (hi : i < 5) : w.cell? ⟨ab, i, none⟩ = some (V i) := by
  rw [cell_of_row _ _ _ _ _ _ h.arr]
  match i, hi with
  | 0, _ => rfl
  | 1, _ => rfl
  | 2, _ => rfl
  | 3, _ => rfl
  | 4, _ => rfl
end Go.Proofs.Ytaonjmmdgfbceaa
