/- StackApart: the second loop (all are grown), step by step. -/
import Derived.Test.YtaonjmmdgfbceaaApn
namespace Go.Proofs.Ytaonjmmdgfbceaa
set_option linter.unusedVariables false
set_option linter.unusedSimpArgs false
open Go.RowKit
/-- the version that is put behind -/
def rvG (i : Nat) : Rv := ⟨⟨[], (i : Int), false, [], []⟩, [], none, 0⟩
/-- a version ahead of the sixteen: grown, or not yet -/
def El (i : Nat) (grown : Bool) (r : Rv) : Prop := r.v.data = cs i ∧ (if grown = true then ∃ X, r.v.l = X ++ [gp i] ∧ ∀ p ∈ X, p = mp i else (∀ p ∈ r.v.l, p = mp i) ∧ r.v.l.length ≤ 1048577)
structure Lr (i m n k : Nat) (R : List Rv) : Prop where
  len : R.length = m + n
  lo : ∀ (x : Nat) (r : Rv), x < m → R[x]? = some r → El i (decide (x < k)) r
  hi : ∀ (x : Nat) (r : Rv), m ≤ x → R[x]? = some r → r.v.seq = (i : Int)
theorem Lr.gw {i m : Nat} {R : List Rv} (h : Lr i m 16 m R) : Gw i m (R.map (·.v)) := by
  refine ⟨by rw [List.length_map]; exact h.len, fun k v hk hv => ?_, fun k v hk hv => ?_⟩
  · rw [List.getElem?_map] at hv
    cases hq : R[k]? with
    | none => rw [hq] at hv; cases hv
    | some r =>
      rw [hq] at hv
      simp at hv
      subst hv
      have := h.lo k r hk hq
      unfold El at this
      rw [decide_eq_true hk, if_pos rfl] at this
      exact this
  · rw [List.getElem?_map] at hv
    cases hq : R[k]? with
    | none => rw [hq] at hv; cases hv
    | some r =>
      rw [hq] at hv
      simp at hv
      subst hv
      exact h.hi k r hk hq
def L2 (B : Nat) (w0 w : World) (ab : Nat) (mm : Nat → Nat) (i n k : Nat) : Prop := ∃ V R, Kp B w0 w ab V R 1048578 ∧ (∀ j, j < 5 → j < i → Lr j (mm j) 16 (mm j) (R j)) ∧ (∀ j, j < 5 → i < j → Lr j (mm j) 0 0 (R j)) ∧ (i < 5 → Lr i (mm i) n k (R i))
theorem L2.later {B : Nat} {w0 w w' : World} {ab : Nat} {mm : Nat → Nat} {i n k : Nat} (h : L2 B w0 w ab mm i n k) (hb : Below w.heap.size w w') : L2 B w0 w' ab mm i n k := by
  obtain ⟨V, R, h1, h2, h3, h4⟩ := h
  exact ⟨V, R, h1.later hb, h2, h3, h4⟩
theorem L1.grow {B : Nat} {w0 w : World} {ab : Nat} {mm : Nat → Nat} (h : L1 B w0 w ab mm 5 0 0) : L2 B w0 w ab mm 0 0 0 := by
  obtain ⟨V, R, h1, h2, h3, h4⟩ := h
  have key : ∀ j, j < 5 → Lr j (mm j) 0 0 (R j) := fun j hj => by
    refine ⟨by rw [h2 j hj]; rfl, fun x r hx hr => ?_, fun x r hx hr => ?_⟩
    · have hm := h3 j x r hj hr (.inl hj)
      have hz := h1.z j r hj (List.mem_of_getElem? hr)
      unfold El
      rw [decide_eq_false (by omega)]
      exact ⟨hm.1, hm.2, hz.2⟩
    · have := (List.getElem?_eq_some_iff.1 hr).1
      rw [h2 j hj] at this
      omega
  exact ⟨V, R, ⟨h1.q, h1.b, fun i r hi hr => ⟨(h1.z i r hi hr).1, Nat.le_trans (h1.z i r hi hr).2 (by decide)⟩⟩, fun j _ hj => by omega, fun j hj _ => key j hj, fun h => key 0 h⟩
theorem L2.nextI {B : Nat} {w0 w : World} {ab : Nat} {mm : Nat → Nat} {i : Nat} (hi : i < 5) (h : L2 B w0 w ab mm i 16 (mm i)) : L2 B w0 w ab mm (i + 1) 0 0 := by
  obtain ⟨V, R, h1, h2, h3, h4⟩ := h
  refine ⟨V, R, h1, fun j hj hji => ?_, fun j hj hji => h3 j hj (by omega), fun h5 => h3 (i + 1) h5 (by omega)⟩
  by_cases e : j = i
  · subst e; exact h4 hi
  · exact h2 j hj (by omega)
theorem L2.len {B : Nat} {w0 w : World} {ab : Nat} {mm : Nat → Nat} {i n k : Nat} (h : L2 B w0 w ab mm i n k) (hi : i < 5) : ∃ a c, w.cell? ⟨ab, i, none⟩ = some (.slice a (mm i + n) c) := by
  obtain ⟨V, R, h1, h2, h3, h4⟩ := h
  obtain ⟨a, c, e, _⟩ := (h1.q.fo i hi).ls
  exact ⟨a, c, by rw [h1.q.cell hi, e, (h4 hi).len]⟩
theorem arr_set {w : World} {ab : Nat} {V : Nat → Value} {i : Nat} (hi : i < 5) (h : w.heap[ab]? = some (.cells #[V 0, V 1, V 2, V 3, V 4] 47 (0, 0))) (v : Value) : (w.setCell ⟨ab, i, none⟩ v).heap[ab]? = some (.cells #[upd V i v 0, upd V i v 1, upd V i v 2, upd V i v 3, upd V i v 4] 47 (0, 0)) := by
  rw [heap_setCell_same _ _ _ _ _ _ h]
  match i, hi with
  | 0, _ => rfl
  | 1, _ => rfl
  | 2, _ => rfl
  | 3, _ => rfl
  | 4, _ => rfl
/-- a version more -/
theorem L2.ver {B : Nat} {w0 w : World} {ab : Nat} {mm : Nat → Nat} {i n : Nat} (h : L2 B w0 w ab mm i n 0) (hi : i < 5) :
    ∃ v R, w.cell? ⟨ab, i, none⟩ = some v ∧ Ad B w v R (rvG i) ∧ R.length = mm i + n ∧ ab < w.heap.size ∧
      ∀ g' cap w', Fo B w' (.slice (some ⟨g', 0, none⟩) (R.length + 1) cap) (R ++ [rvG i]) → Below B w w' → (∀ x, x < w.heap.size → v.ownBlock ≠ some x → w'.heap[x]? = w.heap[x]?) → (v.ownBlock = some g' ∨ w.heap.size ≤ g') →
        (∃ u, w'.cell? ⟨ab, i, none⟩ = some u) ∧ w'.frozen? ⟨ab, i, none⟩ = false ∧ L2 B w0 (w'.setCell ⟨ab, i, none⟩ (.slice (some ⟨g', 0, none⟩) (R.length + 1) cap)) ab mm i (n + 1) 0 := by
  obtain ⟨V, R, h1, h2, h3, h4⟩ := h
  have hl := h4 hi
  have hf := h1.q.fo i hi
  have hab := lt_of_block h1.q.arr
  refine ⟨V i, R i, h1.q.cell hi, ⟨hf, Ow.nil _ _ hf.le, fun k r' hk b hb => by cases hb⟩, hl.len, hab, fun g' cap w' f' hB hfr hat => ?_⟩
  have hnv : (V i).ownBlock ≠ some ab := fun q => h1.q.not hi (.inl q)
  have ha' : w'.heap[ab]? = some (.cells #[V 0, V 1, V 2, V 3, V 4] 47 (0, 0)) := by rw [hfr ab hab hnv]; exact h1.q.arr
  have hgab : ¬ g' = ab := by
    rintro rfl
    rcases hat with q | q
    · exact hnv q
    · omega
  have hmet : ∀ (k : Nat) (r : Rv), (R i ++ [rvG i])[k]? = some r → ∀ b, r.mv.ownBlock = some b → ∃ r', (R i)[k]? = some r' ∧ r'.mv.ownBlock = some b := fun k r hr b hb => by
    by_cases hk : k < (R i).length
    · rw [List.getElem?_append_left hk] at hr
      exact ⟨r, hr, hb⟩
    · rw [List.getElem?_append_right (by omega)] at hr
      have hk0 : k - (R i).length = 0 := by have := (List.getElem?_eq_some_iff.1 hr).1; simp at this; omega
      rw [hk0] at hr
      simp at hr
      subst hr
      cases hb
  have hs := hB.size
  have hab' : ab < w'.heap.size := Nat.lt_of_lt_of_le hab hs
  have hv' : (Value.slice (some ⟨g', 0, none⟩) ((R i).length + 1) cap).ownBlock ≠ some ab := by intro q; injection q with q; exact hgab q
  have fw := f'.other (g := ab) (j := i) hv' (fun k r hr q => by
    obtain ⟨r', e1, e2⟩ := hmet k r hr ab q
    exact h1.q.not hi (.inr ⟨k, r', e1, e2⟩)) (.slice (some ⟨g', 0, none⟩) ((R i).length + 1) cap)
  have hq := h1.q.step hi fw (by simpa using hs) (fun g hg hn hga => by
    rw [heap_setCell_other _ _ _ _ (by intro q; exact hga (by simpa using q)), hfr g hg (fun q => hn (.inl q))]) (fun g hg => by
    rcases hg with q | ⟨k, r, e1, e2⟩
    · injection q with q
      subst q
      rcases hat with x | x
      · exact .inl (.inl x)
      · exact .inr x
    · obtain ⟨r', e3, e4⟩ := hmet k r e1 g e2
      exact .inl (.inr ⟨k, r', e3, e4⟩)) (arr_set hi ha' _)
  refine ⟨⟨_, by rw [cell_of_row _ _ _ _ _ _ ha']; exact ((cell_of_row _ _ _ _ _ _ h1.q.arr).symm.trans (h1.q.cell hi))⟩, frozen_of_row _ _ _ _ _ ha', _, _, ⟨hq, h1.b.trans (hB.setCell (p := ⟨ab, i, none⟩) h1.q.low _), fun j r hj hr => ?_⟩, fun j hj hji => ?_, fun j hj hji => ?_, fun _ => ?_⟩
  · by_cases e : j = i
    · subst e
      rw [upd_same] at hr
      rcases List.mem_append.1 hr with q | q
      · exact h1.z j r hj q
      · simp at q
        subst q
        exact ⟨rfl, Nat.zero_le _⟩
    · rw [upd_other _ _ _ _ e] at hr
      exact h1.z j r hj hr
  · rw [upd_other _ _ _ _ (by omega)]
    exact h2 j hj hji
  · rw [upd_other _ _ _ _ (by omega)]
    exact h3 j hj hji
  · rw [upd_same]
    refine ⟨by rw [List.length_append, hl.len]; rfl, fun x r hx hr => ?_, fun x r hx hr => ?_⟩
    · rw [List.getElem?_append_left (by rw [hl.len]; omega)] at hr
      exact hl.lo x r hx hr
    · by_cases hx2 : x < (R i).length
      · rw [List.getElem?_append_left hx2] at hr
        exact hl.hi x r hx hr
      · rw [List.getElem?_append_right (by omega)] at hr
        have hk0 : x - (R i).length = 0 := by have := (List.getElem?_eq_some_iff.1 hr).1; simp at this; omega
        rw [hk0] at hr
        simp at hr
        subst hr
        rfl
/-- a pair more -/
theorem L2.pair {B : Nat} {w0 w : World} {ab : Nat} {mm : Nat → Nat} {i k : Nat} (h : L2 B w0 w ab mm i 16 k) (hi : i < 5) (hk : k < mm i) :
    ∃ g c ma mn mc l, w.cell? ⟨ab, i, none⟩ = some (.slice (some ⟨g, 0, none⟩) (mm i + 16) c) ∧ w.cell? ⟨g, k * 5 + 4, none⟩ = some (.slice ma mn mc) ∧ g < w.heap.size ∧ ab < w.heap.size ∧ l.length ≤ 1048577 ∧ l.length = mn ∧ Ow B w (.slice ma mn mc) l ∧ (Value.slice ma mn mc).ownBlock ≠ some g ∧ (Value.slice ma mn mc).ownBlock ≠ some ab ∧ w.frozen? ⟨g, k * 5 + 4, none⟩ = false ∧
      ∀ w1 g' c' w', Below w.heap.size w w1 → Ow B w' (.slice (some ⟨g', 0, none⟩) (l.length + 1) c') (l ++ [gp i]) → Below B w1 w' → (∀ x, x < w1.heap.size → (Value.slice ma mn mc).ownBlock ≠ some x → w'.heap[x]? = w1.heap[x]?) → ((Value.slice ma mn mc).ownBlock = some g' ∨ w1.heap.size ≤ g') →
        L2 B w0 (w'.setCell ⟨g, k * 5 + 4, none⟩ (.slice (some ⟨g', 0, none⟩) (l.length + 1) c')) ab mm i 16 (k + 1) := by
  obtain ⟨V, R, h1, h2, h3, h4⟩ := h
  have hl := h4 hi
  have hll := hl.len
  obtain ⟨r, hr⟩ : ∃ r, (R i)[k]? = some r := ⟨(R i)[k], List.getElem?_eq_getElem (by omega)⟩
  obtain ⟨g, c, e, hg1, hg2, hgf, hgc, hgd⟩ := (h1.q.fo i hi).at hr
  have hz := h1.z i r hi (List.mem_of_getElem? hr)
  have hel := hl.lo k r hk hr
  unfold El at hel
  rw [decide_eq_false (by omega)] at hel
  obtain ⟨he1, he2, he3⟩ := (show r.v.data = cs i ∧ (∀ p ∈ r.v.l, p = mp i) ∧ r.v.l.length ≤ 1048577 from hel)
  have hmv : r.mv = .slice r.a r.v.l.length r.c := by unfold Rv.mv; rw [hz.1]; rfl
  have hm := (h1.q.fo i hi).met k r hr
  rw [hz.1, List.append_nil, hmv] at hm
  have hvg : (V i).ownBlock = some g := by rw [e]; rfl
  refine ⟨g, c, r.a, r.v.l.length, r.c, r.v.l, by rw [h1.q.cell hi, e, hll], hgc, hg2, lt_of_block h1.q.arr, he3, rfl, hm, by rw [← hmv]; exact (h1.q.fo i hi).vm hr hvg, by rw [← hmv]; exact fun q => h1.q.not hi (.inr ⟨k, r, hr, q⟩), hgf _, fun w1 g' c' w' hb1 ho hB hfr hat => ?_⟩
  have k1 := h1.later hb1
  have f1 := k1.q.fo i hi
  rw [e] at f1
  have ho' : Ow B w' (.slice (some ⟨g', 0, none⟩) (r.v.l ++ [gp i]).length c') (r.v.l ++ [gp i]) := by rw [List.length_append]; exact ho
  have hfs := f1.setMeta rfl hr (g' := g') (c' := c') (l' := r.v.l ++ [gp i]) ho' hB.size (fun b hb hb' => hfr b hb (by rw [← hmv]; exact hb')) (by rw [hmv]; exact hat)
  rw [← e] at hfs
  have hlen : (r.v.l ++ [gp i]).length = r.v.l.length + 1 := by simp
  rw [hlen] at hfs
  have hTg : Tc (V i) (R i) g := .inl hvg
  have kp := k1.put hi hfs (by simpa using hB.size) (hB.setCell (p := ⟨g, k * 5 + 4, none⟩) hg1 _) (fun x hx hn => by
    rw [heap_setCell_other _ _ _ _ (by intro q; exact hn (by have q : x = g := by simpa using q
                                                             rw [q]; exact hTg)), hfr x hx (fun q => hn (.inr ⟨k, r, hr, by rw [hmv]; exact q⟩))]) (fun x hx => tc_set hr (fun b hb' => by
      have hb2 : g' = b := by simpa [Rv.mv, Value.ownBlock] using hb'
      subst hb2
      rw [hmv]; exact hat) hx) (fun q hq => by
      rcases mem_setR hq with rfl | hq
      · exact ⟨rfl, by show (r.v.l ++ [gp i]).length ≤ _; rw [hlen]; omega⟩
      · exact h1.z i q hi hq)
  refine ⟨V, _, kp, fun j hj hji => ?_, fun j hj hji => ?_, fun _ => ?_⟩
  · rw [upd_other _ _ _ _ (by omega)]; exact h2 j hj hji
  · rw [upd_other _ _ _ _ (by omega)]; exact h3 j hj hji
  · rw [upd_same]
    refine ⟨by rw [List.length_set]; exact hll, fun x q hx hq => ?_, fun x q hx hq => ?_⟩
    · rcases set_get hq with ⟨rfl, rfl⟩ | ⟨hne, hq⟩
      · unfold El
        rw [decide_eq_true (by omega)]
        exact ⟨he1, r.v.l, rfl, he2⟩
      · have := hl.lo x q hx hq
        rwa [show decide (x < k + 1) = decide (x < k) from by
          by_cases hxk : x < k
          · rw [decide_eq_true hxk, decide_eq_true (by omega)]
          · rw [decide_eq_false hxk, decide_eq_false (by omega)]]
    · rcases set_get hq with ⟨rfl, rfl⟩ | ⟨hne, hq⟩
      · omega
      · exact hl.hi x q hx hq
end Go.Proofs.Ytaonjmmdgfbceaa
