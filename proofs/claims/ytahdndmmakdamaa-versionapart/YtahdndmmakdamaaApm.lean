/- Many rows of entries that lie apart: set, grown, kept. -/
import Derived.Test.YtahdndmmakdamaaQw
import Derived.Deep.AppendLies
namespace Go.Proofs.Ytahdndmmakdamaa
set_option linter.unusedVariables false
set_option linter.unusedSimpArgs false
open Go.RowKit
theorem own_cell {w : World} {base g cap n : Nat} {xs : List Value} (h : w.ownsRow base 34 2 (.slice (some ⟨g, 0, none⟩) n cap) n xs) (j : Nat) (hj : j < xs.length) (u : Value) : (w.setCell ⟨g, j, none⟩ u).ownsRow base 34 2 (.slice (some ⟨g, 0, none⟩) n cap) n (xs.set j u) := by
  refine ⟨by rw [List.length_set]; exact h.1, ?_⟩
  rcases h.2 with ⟨e, _⟩ | ⟨g', cap', cur, e, h2, h3, h4, h5, h6, h7⟩
  · cases e
  · injection e with e1 e2 e3
    injection e1 with e1
    injection e1 with e1
    subst e1 e3
    refine Or.inr ⟨g, cap, _, rfl, h2, heap_setCell_same _ _ _ _ _ _ h3, h4, h5, by rw [Array.size_setIfInBounds]; exact h6, ?_⟩
    rw [Array.toList_setIfInBounds, ← h7, List.take_set]
theorem pcells_set (l : List En) (i : Nat) (p : En) (hi : i < l.length) : pcells (l.set i p) = ((pcells l).set (i * 2) (str p.key)).set (i * 2 + 1) (str p.val) := by
  induction l generalizing i with
  | nil => simp at hi
  | cons q l ih =>
    cases i with
    | zero => simp [pcells, pcs]
    | succ i =>
      have := ih i (by simpa using hi)
      have e : ∀ x : List En, pcells (q :: x) = pcs q ++ pcells x := fun x => by simp [pcells]
      rw [List.set_cons_succ, e, e, this]
      simp [pcs, show (i + 1) * 2 = i * 2 + 1 + 1 by omega]
/-- the row's block, where there is an element -/
theorem Ow.form {base : Nat} {w : World} {v : Value} {l : List En} (h : Ow base w v l) (hn : 0 < l.length) : ∃ g cap, v = .slice (some ⟨g, 0, none⟩) l.length cap ∧ base ≤ g ∧ g < w.heap.size ∧ (∀ j, w.frozen? ⟨g, j, none⟩ = false) := by
  rcases h.own.2 with ⟨_, h0⟩ | ⟨g, cap, cur, e, h2, h3, _⟩
  · omega
  · have hlt : g < w.heap.size := by
      rcases Nat.lt_or_ge g w.heap.size with q | q
      · exact q
      · rw [Array.getElem?_eq_none q] at h3; cases h3
    exact ⟨g, cap, e, h2, hlt, fun j => frozen_of_row _ _ _ _ _ h3⟩
theorem Ow.type {base : Nat} {w : World} {v : Value} {l : List En} (h : Ow base w v l) {g : Nat} (hg : v.ownBlock = some g) : ∃ cs, w.heap[g]? = some (.cells cs 34 (0, 0)) := by
  rcases h.own.2 with ⟨e, h0⟩ | ⟨g', cap, cur, e, h2, h3, _⟩
  · subst e; cases hg
  · subst e
    have : g' = g := by simpa [Value.ownBlock] using hg
    subst this
    exact ⟨_, h3⟩
/-- rows that lie apart, each with its list -/
structure Rs (B : Nat) (w : World) (n : Nat) (v : Nat → Value) (X : Nat → List En) : Prop where
  ow : ∀ i, i < n → Ow B w (v i) (X i)
  ap : ∀ i j, i < n → j < n → i ≠ j → ∀ g, (v i).ownBlock = some g → (v j).ownBlock ≠ some g
theorem Rs.later {B : Nat} {w w' : World} {n : Nat} {v : Nat → Value} {X : Nat → List En} (h : Rs B w n v X) (hb : Below w.heap.size w w') : Rs B w' n v X := ⟨fun i hi => (h.ow i hi).later hb, h.ap⟩
theorem Rs.congr {B : Nat} {w : World} {n : Nat} {v v' : Nat → Value} {X Y : Nat → List En} (h : Rs B w n v X) (hv : ∀ i, i < n → v' i = v i) (hX : ∀ i, i < n → Y i = X i) : Rs B w n v' Y := ⟨fun i hi => by rw [hv i hi, hX i hi]; exact h.ow i hi, fun i j hi hj hn g => by rw [hv i hi, hv j hj]; exact h.ap i j hi hj hn g⟩
def upd {α : Type} (f : Nat → α) (i : Nat) (x : α) : Nat → α := fun j => if j = i then x else f j
theorem upd_same {α : Type} (f : Nat → α) (i : Nat) (x : α) : upd f i x i = x := by simp [upd]
theorem upd_other {α : Type} (f : Nat → α) (i j : Nat) (x : α) (h : j ≠ i) : upd f i x j = f j := by simp [upd, h]
theorem Rs.set {B : Nat} {w : World} {n : Nat} {v : Nat → Value} {X : Nat → List En} (h : Rs B w n v X) (i : Nat) (hi : i < n) {g cap : Nat} (hv : v i = .slice (some ⟨g, 0, none⟩) (X i).length cap) (k : Nat) (hk : k < (X i).length) (p : En) :
    Rs B ((w.setCell ⟨g, k * 2, none⟩ (str p.key)).setCell ⟨g, k * 2 + 1, none⟩ (str p.val)) n v (upd X i ((X i).set k p)) := by
  have hl := pcells_length (X i)
  refine ⟨fun j hj => ?_, h.ap⟩
  by_cases e : j = i
  · subst e
    rw [upd_same]
    have ho := (h.ow j hj).own
    refine ⟨?_, by simpa using (h.ow j hj).le⟩
    rw [hv] at ho ⊢
    rw [pcells_set (X j) k p hk, List.length_set]
    exact own_cell (own_cell ho (k * 2) (by omega) _) (k * 2 + 1) (by rw [List.length_set]; omega) _
  · rw [upd_other _ _ _ _ e]
    have hy : (v j).ownBlock ≠ some g := h.ap i j hi hj (fun q => e q.symm) g (by rw [hv]; rfl)
    have ho := (h.ow j hj)
    exact ⟨ownsRow_setCell_other (ownsRow_setCell_other ho.own (a := ⟨g, _, none⟩) hy _) (a := ⟨g, _, none⟩) hy _, by simpa using ho.le⟩
/-- a store into a block of another sort -/
theorem Rs.store {B : Nat} {w : World} {n : Nat} {v : Nat → Value} {X : Nat → List En} (h : Rs B w n v X) {R : Nat} {cs : Array Value} {t : TypeId} (hR : w.heap[R]? = some (.cells cs t (0, 0))) (ht : t ≠ 34) (j : Nat) (u : Value) : Rs B (w.setCell ⟨R, j, none⟩ u) n v X := by
  refine ⟨fun i hi => ?_, h.ap⟩
  have ho := h.ow i hi
  have hy : (v i).ownBlock ≠ some R := fun q => by
    obtain ⟨c2, h2⟩ := ho.type q
    rw [hR] at h2
    injection h2 with h2
    injection h2 with _ h2
    exact ht h2
  exact ⟨ownsRow_setCell_other ho.own (a := ⟨R, _, none⟩) hy _, by simpa using ho.le⟩
theorem Rs.alloc {B : Nat} {w : World} {n : Nat} {v : Nat → Value} {X : Nat → List En} (h : Rs B w n v X) (o : Obj) : Rs B (w.alloc o) n v X := h.later ((Below.refl _ _).alloc (Nat.le_refl _) _)
theorem rs_app {ops : Array Oper} {rest : List Oper} {o : Oper} {a : Act} {Q : Exit → Act → World → Prop} {W : World} (hgd : o.guard = none) (s x : Operand) (ho : o.op = .call { callee := .builtin .append, args := #[s, x], argTypes := #[22, 22] })
    {B n i : Nat} {w : World} {v : Nat → Value} {X : Nat → List En} {g0 : Nat} (p : En) (hW : W = w.alloc (.cells #[str p.key, str p.val] 34)) (hT : Rs B w n v X) (hi : i < n) (hg : g0 = w.heap.size) (hn : (X i).length ≤ 1000000000)
    (hs : a.eval s = v i) (hx : a.eval x = .slice (some ⟨g0, 0, none⟩) 1 1)
    (h : ∀ g cap w', Rs B w' n (upd v i (.slice (some ⟨g, 0, none⟩) ((X i).length + 1) cap)) (upd X i (X i ++ [p])) → Below B w w' → (∀ R, R < w.heap.size → (∀ j, j < n → (v j).ownBlock ≠ some R) → w'.heap[R]? = w.heap[R]?) → wpList Try.prog ops Q rest (a.put o.dst (.slice (some ⟨g, 0, none⟩) ((X i).length + 1) cap)) w') :
    wpList Try.prog ops Q (o :: rest) a W := by
  subst hW hg
  obtain ⟨i0, hi0, hz0, hz1, hz2⟩ := infoP
  have hm : maxLen = 9223372036854775807 := rfl
  have hox := hT.ow i hi
  have hle := hox.le
  refine wpList_append_lies _ hgd s x 22 ho B 34 i0 _ 2 32 Try.underlying22 hi0 hz0 hz1 hz2 rfl (by omega) (v i) (X i).length (pcells (X i)) hs (hox.own.alloc _) _ 1 1 (pcs p) hx rfl
    (World.news_of_block (cs := #[str p.key, str p.val]) (t := 34) (fr := (0, 0)) (heap_alloc_new w _)) (by simp [pcs, Value.oneCell']) (by omega) (by rw [hm]; omega) (by omega) (by simp; omega) _ rfl ?_
  intro g cap w' hown hgrow hat hlt
  have hgr := hgrow.size
  simp at hgr
  have hold : ∀ R, R < w.heap.size → some R ≠ (v i).ownBlock → w'.heap[R]? = w.heap[R]? := fun R h1 h2 => by
    rw [hgrow.block R (by simp; omega) h2, heap_alloc_old _ _ h1]
  refine h g cap w' ⟨fun j hj => ?_, ?_⟩ ?_ (fun R h1 h2 => hold R h1 (fun q => h2 i hi q.symm))
  · by_cases e : j = i
    · subst e
      rw [upd_same, upd_same]
      refine ⟨?_, by omega⟩
      rw [pcells_append, List.length_append]
      have : pcells [p] = pcs p := by simp [pcells]
      rw [this]; exact hown
    · rw [upd_other _ _ _ _ e, upd_other _ _ _ _ e]
      have hoy := hT.ow j hj
      refine ⟨⟨hoy.own.1, ?_⟩, by omega⟩
      rcases hoy.own.2 with e | ⟨gy, cy, cur, e1, e2, e3, e4⟩
      · exact Or.inl e
      · refine Or.inr ⟨gy, cy, cur, e1, e2, ?_, e4⟩
        have hyl : gy < w.heap.size := by
          rcases Nat.lt_or_ge gy w.heap.size with q | q
          · exact q
          · rw [Array.getElem?_eq_none q] at e3; cases e3
        rw [hold gy hyl (fun q => hT.ap i j hi hj (fun q => e q.symm) gy q.symm (by rw [e1]; rfl))]
        exact e3
  · have key : ∀ j, j < n → j ≠ i → (v j).ownBlock ≠ some g := fun j hj e hy => by
      rcases hat with q | q
      · exact hT.ap i j hi hj (fun q => e q.symm) g q hy
      · have := ((hT.ow j hj).own.lt g hy).2
        have h2 : (w.alloc (Obj.cells #[str p.key, str p.val] 34)).heap.size = w.heap.size + 1 := by simp
        omega
    have ob : ∀ m c, (Value.slice (some ⟨g, 0, none⟩) m c).ownBlock = some g := fun m c => rfl
    intro j k hj hk hne g1 h1 h2
    by_cases e : j = i
    · subst e
      rw [upd_same, ob] at h1
      rw [upd_other _ _ _ _ (fun q => hne q.symm)] at h2
      rw [← h1] at h2
      exact key k hk (fun q => hne q.symm) h2
    · rw [upd_other _ _ _ _ e] at h1
      by_cases e2 : k = i
      · subst e2
        rw [upd_same, ob] at h2
        rw [← h2] at h1
        exact key j hj e h1
      · rw [upd_other _ _ _ _ e2] at h2
        exact hT.ap j k hj hk hne g1 h1 h2
  · exact ((Below.refl _ _).alloc hle _).trans (grown_below (hox.own.alloc _) (by simp; omega) hgrow)
/-- the first k are marked -/
def mkd (q : En) (M : List En) (k : Nat) : List En := List.replicate k q ++ M.drop k
theorem mkd_len (q : En) (M : List En) (k : Nat) (h : k ≤ M.length) : (mkd q M k).length = M.length := by simp [mkd]; omega
theorem mkd_zero (q : En) (M : List En) : mkd q M 0 = M := by simp [mkd]
theorem mkd_all (q : En) (M : List En) : mkd q M M.length = List.replicate M.length q := by simp [mkd]
theorem mkd_set (q : En) (M : List En) (k : Nat) (h : k < M.length) : (mkd q M k).set k q = mkd q M (k + 1) := by
  unfold mkd
  rw [List.set_append_right _ _ (by simp), List.length_replicate, Nat.sub_self]
  rw [List.drop_eq_getElem_cons h, List.set_cons_zero, List.replicate_succ', List.append_assoc]
  rfl
end Go.Proofs.Ytahdndmmakdamaa
