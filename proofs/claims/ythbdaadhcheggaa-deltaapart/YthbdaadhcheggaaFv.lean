/- Rows of versions of one's own: cells set, blocks told (own_cellT to tc_set: as wip/bucket/Fob). -/
import Derived.Test.YthbdaadhcheggaaRv
import Derived.Test.YthbdaadhcheggaaGa
namespace Go.Proofs.Ythbdaadhcheggaa
set_option linter.unusedVariables false
set_option linter.unusedSimpArgs false
open Go.RowKit
theorem own_cellT {w : World} {base g cap n s : Nat} {t : TypeId} {xs : List Value} (h : w.ownsRow base t s (.slice (some ⟨g, 0, none⟩) n cap) n xs) (j : Nat) (u : Value) : (w.setCell ⟨g, j, none⟩ u).ownsRow base t s (.slice (some ⟨g, 0, none⟩) n cap) n (xs.set j u) := by
  refine ⟨by rw [List.length_set]; exact h.1, ?_⟩
  rcases h.2 with ⟨e, _⟩ | ⟨g', cap', cur, e, h2, h3, h4, h5, h6, h7⟩
  · cases e
  · injection e with e1 e2 e3
    injection e1 with e1
    injection e1 with e1
    subst e1 e3
    refine Or.inr ⟨g, cap, _, rfl, h2, heap_setCell_same _ _ _ _ _ _ h3, h4, h5, by rw [Array.size_setIfInBounds]; exact h6, ?_⟩
    rw [Array.toList_setIfInBounds, ← h7, List.take_set]
theorem pcells_set (l : List En) (i : Nat) (p : En) (hi : i < l.length) : pcells (l.set i p) = ((pcells l).set (i * 2) (str p.key)).set (i * 2 + 1) (str p.val) := by
  induction l generalizing i with
  | nil => simp at hi
  | cons q l ih =>
    cases i with
    | zero => simp [pcells, pcs]
    | succ i =>
      have := ih i (by simpa using hi)
      have e : ∀ x : List En, pcells (q :: x) = pcs q ++ pcells x := fun x => by simp [pcells]
      rw [List.set_cons_succ, e, e, this]
      simp [pcs, show (i + 1) * 2 = i * 2 + 1 + 1 by omega]
theorem rcells_cons (q : Rv) (l : List Rv) : rcells (q :: l) = rcs q ++ rcells l := by simp [rcells]
theorem rcells_set3 : ∀ (R : List Rv) (k : Nat) (r : Rv) (d : List UInt8), R[k]? = some r → rcells (R.set k { r with v := { r.v with data := d } }) = (rcells R).set (k * 5 + 3) (str d)
  | [], k, r, d, h => by simp at h
  | q :: l, 0, r, d, h => by
    simp at h
    subst h
    rw [List.set_cons_zero, rcells_cons, rcells_cons]
    simp [rcs]
  | q :: l, k + 1, r, d, h => by
    have := rcells_set3 l k r d (by simpa using h)
    rw [List.set_cons_succ, rcells_cons, rcells_cons, this]
    simp [rcs, show (k + 1) * 5 + 3 = k * 5 + 3 + 1 + 1 + 1 + 1 + 1 by omega]
theorem rcells_set4 : ∀ (R : List Rv) (k : Nat) (r : Rv) (l' : List En) (a : Option Addr) (c : Nat) (z : List En), R[k]? = some r → rcells (R.set k ⟨{ r.v with l := l' }, z, a, c⟩) = (rcells R).set (k * 5 + 4) (.slice a l'.length c)
  | [], k, r, l', a, c, z, h => by simp at h
  | q :: l, 0, r, l', a, c, z, h => by
    simp at h
    subst h
    rw [List.set_cons_zero, rcells_cons, rcells_cons]
    simp [rcs]
  | q :: l, k + 1, r, l', a, c, z, h => by
    have := rcells_set4 l k r l' a c z (by simpa using h)
    rw [List.set_cons_succ, rcells_cons, rcells_cons, this]
    simp [rcs, show (k + 1) * 5 + 4 = k * 5 + 4 + 1 + 1 + 1 + 1 + 1 by omega]
theorem rcells_setl : ∀ (R : List Rv) (k : Nat) (r : Rv) (l' : List En), R[k]? = some r → l'.length = r.v.l.length → rcells (R.set k { r with v := { r.v with l := l' } }) = rcells R
  | [], k, r, l', h, _ => by simp at h
  | q :: l, 0, r, l', h, e => by
    simp at h
    subst h
    rw [List.set_cons_zero, rcells_cons, rcells_cons]
    simp [rcs, e]
  | q :: l, k + 1, r, l', h, e => by
    rw [List.set_cons_succ, rcells_cons, rcells_cons, rcells_setl l k r l' (by simpa using h) e]
/-- the blocks of a row of versions -/
def Tc (v : Value) (R : List Rv) (g : Nat) : Prop := v.ownBlock = some g ∨ ∃ (k : Nat) (r : Rv), R[k]? = some r ∧ r.mv.ownBlock = some g
theorem Fo.tc {B : Nat} {w : World} {v : Value} {R : List Rv} (h : Fo B w v R) {g : Nat} (ht : Tc v R g) : B ≤ g ∧ g < w.heap.size := by
  rcases ht with q | ⟨k, r, h1, h2⟩
  · exact h.own.lt g q
  · exact (h.met k r h1).own.lt g h2
theorem Fo.frame {B : Nat} {w w' : World} {v : Value} {R : List Rv} (h : Fo B w v R) (hs : w.heap.size ≤ w'.heap.size) (hx : ∀ g, Tc v R g → w'.heap[g]? = w.heap[g]?) : Fo B w' v R :=
  ⟨own_same h.own (fun g hg => hx g (.inl hg)), Nat.le_trans h.le hs, fun k r hk => (h.met k r hk).same hs (fun g hg => hx g (.inr ⟨k, r, hk, hg⟩)), h.par⟩
theorem Fo.vm {B : Nat} {w : World} {v : Value} {R : List Rv} (h : Fo B w v R) {k : Nat} {r : Rv} (hk : R[k]? = some r) {g : Nat} (hg : v.ownBlock = some g) : r.mv.ownBlock ≠ some g := own_apart h.own (h.met k r hk).own (by decide) hg
theorem Fo.mv {B : Nat} {w : World} {v : Value} {R : List Rv} (h : Fo B w v R) {k : Nat} {r : Rv} (hk : R[k]? = some r) {g : Nat} (hg : r.mv.ownBlock = some g) : v.ownBlock ≠ some g := own_apart (h.met k r hk).own h.own (by decide) hg
theorem set_get {R : List Rv} {k j : Nat} {r' q : Rv} (h : (R.set k r')[j]? = some q) : (j = k ∧ q = r') ∨ (¬ j = k ∧ R[j]? = some q) := by
  by_cases e : j = k
  · subst e
    have hl := (List.getElem?_eq_some_iff.1 h).1
    rw [List.getElem?_set_self (by simpa using hl)] at h
    injection h with h
    exact .inl ⟨rfl, h.symm⟩
  · rw [List.getElem?_set_ne (fun q => e q.symm)] at h
    exact .inr ⟨e, h⟩
/-- a version's data set -/
theorem Fo.setData {B : Nat} {w : World} {g cap n : Nat} {R : List Rv} (h : Fo B w (.slice (some ⟨g, 0, none⟩) n cap) R) (hn : n = R.length) {k : Nat} {r : Rv} (hk : R[k]? = some r) (d : List UInt8) :
    Fo B (w.setCell ⟨g, k * 5 + 3, none⟩ (str d)) (.slice (some ⟨g, 0, none⟩) n cap) (R.set k { r with v := { r.v with data := d } }) := by
  subst hn
  refine ⟨?_, by simpa using h.le, fun j q hq => ?_, fun i j q q' hij hq hq' b hb => ?_⟩
  · rw [List.length_set, rcells_set3 R k r d hk]
    exact own_cellT h.own _ _
  · rcases set_get hq with ⟨rfl, rfl⟩ | ⟨_, hq⟩
    · exact (h.met j r hk).other (h.vm hk rfl) _
    · exact (h.met j q hq).other (h.vm hq rfl) _
  · rcases set_get hq with ⟨rfl, rfl⟩ | ⟨_, hq1⟩
    · rcases set_get hq' with ⟨rfl, rfl⟩ | ⟨_, hq'⟩
      · exact absurd rfl hij
      · exact h.par i j r q' hij hk hq' b hb
    · rcases set_get hq' with ⟨rfl, rfl⟩ | ⟨_, hq'⟩
      · exact h.par i j q r hij hq1 hk b hb
      · exact h.par i j q q' hij hq1 hq' b hb
/-- a pair set -/
theorem Fo.setPair {B : Nat} {w : World} {v : Value} {R : List Rv} (h : Fo B w v R) {k : Nat} {r : Rv} (hk : R[k]? = some r) (hz : r.z = []) {mb n : Nat} (ha : r.a = some ⟨mb, 0, none⟩) (hn : n < r.v.l.length) (p : En) :
    Fo B ((w.setCell ⟨mb, n * 2, none⟩ (str p.key)).setCell ⟨mb, n * 2 + 1, none⟩ (str p.val)) v (R.set k { r with v := { r.v with l := r.v.l.set n p } }) := by
  have hb : r.mv.ownBlock = some mb := by unfold Rv.mv; rw [ha]; rfl
  have hlen : (r.v.l.set n p).length = r.v.l.length := List.length_set
  have hmv : ({ r with v := { r.v with l := r.v.l.set n p } } : Rv).mv = r.mv := by unfold Rv.mv; simp
  refine ⟨?_, by simpa using h.le, fun j q hq => ?_, fun i j q q' hij hq hq' b hb2 => ?_⟩
  · rw [List.length_set, rcells_setl R k r _ hk hlen]
    exact ownsRow_setCell_other (ownsRow_setCell_other h.own (a := ⟨mb, _, none⟩) (h.mv hk hb) _) (a := ⟨mb, _, none⟩) (h.mv hk hb) _
  · rcases set_get hq with ⟨rfl, rfl⟩ | ⟨hj, hq⟩
    · have ho := h.met j r hk
      refine ⟨?_, by simpa using ho.le⟩
      have ho := ho.own
      rw [hmv]
      have hm : r.mv = .slice (some ⟨mb, 0, none⟩) r.v.l.length r.c := by unfold Rv.mv; rw [ha, hz]; rfl
      rw [hm, hz, List.append_nil] at ho
      show World.ownsRow _ B 51 2 r.mv ((r.v.l.set n p) ++ r.z).length (pcells ((r.v.l.set n p) ++ r.z))
      rw [hm, hz, List.append_nil, hlen, pcells_set _ _ _ hn]
      exact own_cellT (own_cellT ho _ _) _ _
    · have hne := h.par k j r q (fun e => hj e.symm) hk hq mb hb
      exact ((h.met j q hq).other hne _).other hne _
  · rcases set_get hq with ⟨rfl, rfl⟩ | ⟨_, hq1⟩
    · rw [hmv] at hb2
      rcases set_get hq' with ⟨rfl, rfl⟩ | ⟨_, hq'⟩
      · exact absurd rfl hij
      · exact h.par i j r q' hij hk hq' b hb2
    · rcases set_get hq' with ⟨rfl, rfl⟩ | ⟨_, hq'⟩
      · rw [hmv]
        exact h.par i j q r hij hq1 hk b hb2
      · exact h.par i j q q' hij hq1 hq' b hb2
theorem rcells_set1 : ∀ (R : List Rv) (k : Nat) (r : Rv) (q : Int), R[k]? = some r → rcells (R.set k { r with v := { r.v with seq := q } }) = (rcells R).set (k * 5 + 1) (.int .i64 q)
  | [], k, r, d, h => by simp at h
  | q :: l, 0, r, d, h => by
    simp at h
    subst h
    rw [List.set_cons_zero, rcells_cons, rcells_cons]
    simp [rcs]
  | q :: l, k + 1, r, d, h => by
    have := rcells_set1 l k r d (by simpa using h)
    rw [List.set_cons_succ, rcells_cons, rcells_cons, this]
    simp [rcs, show (k + 1) * 5 + 1 = k * 5 + 1 + 1 + 1 + 1 + 1 + 1 by omega]
/-- a version's number set -/
theorem Fo.setSeq {B : Nat} {w : World} {g cap n : Nat} {R : List Rv} (h : Fo B w (.slice (some ⟨g, 0, none⟩) n cap) R) (hn : n = R.length) {k : Nat} {r : Rv} (hk : R[k]? = some r) (d : Int) :
    Fo B (w.setCell ⟨g, k * 5 + 1, none⟩ (.int .i64 d)) (.slice (some ⟨g, 0, none⟩) n cap) (R.set k { r with v := { r.v with seq := d } }) := by
  subst hn
  refine ⟨?_, by simpa using h.le, fun j q hq => ?_, fun i j q q' hij hq hq' b hb => ?_⟩
  · rw [List.length_set, rcells_set1 R k r d hk]
    exact own_cellT h.own _ _
  · rcases set_get hq with ⟨rfl, rfl⟩ | ⟨_, hq⟩
    · exact (h.met j r hk).other (h.vm hk rfl) _
    · exact (h.met j q hq).other (h.vm hq rfl) _
  · rcases set_get hq with ⟨rfl, rfl⟩ | ⟨_, hq1⟩
    · rcases set_get hq' with ⟨rfl, rfl⟩ | ⟨_, hq'⟩
      · exact absurd rfl hij
      · exact h.par i j r q' hij hk hq' b hb
    · rcases set_get hq' with ⟨rfl, rfl⟩ | ⟨_, hq'⟩
      · exact h.par i j q r hij hq1 hk b hb
      · exact h.par i j q q' hij hq1 hq' b hb
theorem tc_set {v : Value} {R : List Rv} {k : Nat} {r r' : Rv} (hk : R[k]? = some r) {g s : Nat} (hr : ∀ b, r'.mv.ownBlock = some b → r.mv.ownBlock = some b ∨ s ≤ b) (h : Tc v (R.set k r') g) : Tc v R g ∨ s ≤ g := by
  rcases h with q | ⟨j, x, h1, h2⟩
  · exact .inl (.inl q)
  · rcases set_get h1 with ⟨rfl, rfl⟩ | ⟨_, h1⟩
    · rcases hr g h2 with q | q
      · exact .inl (.inr ⟨j, r, hk, q⟩)
      · exact .inr q
    · exact .inl (.inr ⟨j, x, h1, h2⟩)
theorem rcells_set0 : ∀ (R : List Rv) (k : Nat) (r : Rv) (d : List UInt8), R[k]? = some r → rcells (R.set k { r with v := { r.v with key := d } }) = (rcells R).set (k * 5) (str d)
  | [], k, r, d, h => by simp at h
  | q :: l, 0, r, d, h => by
    simp at h
    subst h
    rw [List.set_cons_zero, rcells_cons, rcells_cons]
    simp [rcs]
  | q :: l, k + 1, r, d, h => by
    have := rcells_set0 l k r d (by simpa using h)
    rw [List.set_cons_succ, rcells_cons, rcells_cons, this]
    simp [rcs, show (k + 1) * 5 = k * 5 + 1 + 1 + 1 + 1 + 1 by omega]
/-- a cell of a version set, its pairs' row as it was -/
theorem Fo.setCellV {B : Nat} {w : World} {g cap n : Nat} {R : List Rv} (h : Fo B w (.slice (some ⟨g, 0, none⟩) n cap) R) (hn : n = R.length) {k : Nat} {r r' : Rv} (hk : R[k]? = some r) (j : Nat) (x : Value) (hc : rcells (R.set k r') = (rcells R).set j x) (hm : r'.mv = r.mv) (hl : r'.v.l ++ r'.z = r.v.l ++ r.z) :
    Fo B (w.setCell ⟨g, j, none⟩ x) (.slice (some ⟨g, 0, none⟩) n cap) (R.set k r') := by
  subst hn
  refine ⟨?_, by simpa using h.le, fun j q hq => ?_, fun i j q q' hij hq hq' b hb => ?_⟩
  · rw [List.length_set, hc]
    exact own_cellT h.own _ _
  · rcases set_get hq with ⟨rfl, rfl⟩ | ⟨_, hq⟩
    · rw [hm, hl]
      exact (h.met j r hk).other (h.vm hk rfl) _
    · exact (h.met j q hq).other (h.vm hq rfl) _
  · rcases set_get hq with ⟨rfl, rfl⟩ | ⟨_, hq1⟩
    · rcases set_get hq' with ⟨rfl, rfl⟩ | ⟨_, hq'⟩
      · exact absurd rfl hij
      · exact h.par i j r q' hij hk hq' b (by rw [← hm]; exact hb)
    · rcases set_get hq' with ⟨rfl, rfl⟩ | ⟨_, hq'⟩
      · rw [hm]; exact h.par i j q r hij hq1 hk b hb
      · exact h.par i j q q' hij hq1 hq' b hb
/-- what turns lies in X -/
structure Ot (X : Nat → Prop) (w w' : World) : Prop where
  os : w'.os = w.os
  tape : w'.tape = w.tape
  output : w'.output = w.output
  size : w.heap.size ≤ w'.heap.size
  block : ∀ k, k < w.heap.size → ¬ X k → w'.heap[k]? = w.heap[k]?
theorem Ot.refl (X : Nat → Prop) (w : World) : Ot X w w := ⟨rfl, rfl, rfl, Nat.le_refl _, fun _ _ _ => rfl⟩
theorem Ot.trans {X : Nat → Prop} {w w' w'' : World} (h : Ot X w w') (h2 : Ot X w' w'') : Ot X w w'' := ⟨h2.os.trans h.os, h2.tape.trans h.tape, h2.output.trans h.output, Nat.le_trans h.size h2.size, fun k hk hx => (h2.block k (Nat.lt_of_lt_of_le hk h.size) hx).trans (h.block k hk hx)⟩
theorem Ot.bel {X : Nat → Prop} {w w' : World} (h : Below w.heap.size w w') : Ot X w w' := ⟨h.os, h.tape, h.output, h.size, fun k hk _ => h.block k hk⟩
theorem Ot.mono {X Y : Nat → Prop} {w w' : World} (h : Ot X w w') (hx : ∀ k, k < w.heap.size → X k → Y k) : Ot Y w w' := ⟨h.os, h.tape, h.output, h.size, fun k hk hy => h.block k hk (fun q => hy (hx k hk q))⟩
theorem Ot.below {X : Nat → Prop} {w w' : World} {n : Nat} (h : Ot X w w') (hn : n ≤ w.heap.size) (hx : ∀ k, X k → n ≤ k) : Below n w w' := ⟨h.os, h.tape, h.output, h.size, fun k hk => h.block k (by omega) (fun q => by have := hx k q; omega)⟩
theorem Ot.set {X : Nat → Prop} {w w' : World} {g j : Nat} {v : Value} (h : Ot X w w') (hx : X g) : Ot X w (w'.setCell ⟨g, j, none⟩ v) := by
  refine h.trans ⟨rfl, rfl, rfl, by simp, fun k hk hn => ?_⟩
  exact Below.heap_setCell _ _ _ _ (fun q => hn (by rw [q]; exact hx))
end Go.Proofs.Ythbdaadhcheggaa
