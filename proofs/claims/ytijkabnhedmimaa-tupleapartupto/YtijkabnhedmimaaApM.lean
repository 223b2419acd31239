/- Two rows of parts that lie apart: set, grown, kept. -/
import Derived.Test.YtijkabnhedmimaaBeg
import Derived.OneCell
import Derived.Deep.AppendLies
namespace Go.Proofs.Ytijkabnhedmimaa
set_option linter.unusedVariables false
set_option linter.unusedSimpArgs false
open Go.RowKit
theorem cell_set (wr : World) (g j : Nat) (cs : Array Value) (t : TypeId) (v : Value) (h : wr.heap[g]? = some (.cells cs t (0, 0))) : (wr.setCell ⟨g, j, none⟩ v).heap[g]? = some (.cells (cs.setIfInBounds j v) t (0, 0)) :=
  heap_setCell_same wr g j cs t v h
theorem own_cell {w : World} {base g cap n : Nat} {xs : List Value} (h : w.ownsRow base 27 3 (.slice (some ⟨g, 0, none⟩) n cap) n xs) (j : Nat) (hj : j < xs.length) (u : Value) : (w.setCell ⟨g, j, none⟩ u).ownsRow base 27 3 (.slice (some ⟨g, 0, none⟩) n cap) n (xs.set j u) := by
  refine ⟨by rw [List.length_set]; exact h.1, ?_⟩
  rcases h.2 with ⟨e, _⟩ | ⟨g', cap', cur, e, h2, h3, h4, h5, h6, h7⟩
  · cases e
  · injection e with e1 e2 e3
    injection e1 with e1
    injection e1 with e1
    subst e1 e3
    refine Or.inr ⟨g, cap, _, rfl, h2, cell_set _ _ _ _ _ _ h3, h4, h5, by rw [Array.size_setIfInBounds]; exact h6, ?_⟩
    rw [Array.toList_setIfInBounds, ← h7, List.take_set]
theorem pcells_set (l : List Pt) (i : Nat) (p : Pt) (hi : i < l.length) : pcells (l.set i p) = (((pcells l).set (i * 3) (.int .i64 p.kind)).set (i * 3 + 1) (str p.text)).set (i * 3 + 2) (.int .i64 p.n) := by
  induction l generalizing i with
  | nil => simp at hi
  | cons q l ih =>
    cases i with
    | zero => simp [pcells, pcs]
    | succ i =>
      have := ih i (by simpa using hi)
      have e : ∀ x : List Pt, pcells (q :: x) = pcs q ++ pcells x := fun x => by simp [pcells]
      rw [List.set_cons_succ, e, e, this]
      simp [pcs, show (i + 1) * 3 = i * 3 + 1 + 1 + 1 by omega]
structure Tw (B : Nat) (w : World) (x : Value) (X : List Pt) (y : Value) (Y : List Pt) : Prop where
  ox : Ow B w x X
  oy : Ow B w y Y
  ne : ∀ g, x.ownBlock = some g → y.ownBlock ≠ some g
theorem Tw.symm {B : Nat} {w : World} {x y : Value} {X Y : List Pt} (h : Tw B w x X y Y) : Tw B w y Y x X := ⟨h.oy, h.ox, fun g hg hx => h.ne g hx hg⟩
theorem Tw.later {B : Nat} {w w' : World} {x y : Value} {X Y : List Pt} (h : Tw B w x X y Y) (hb : Below w.heap.size w w') : Tw B w' x X y Y := ⟨h.ox.later hb, h.oy.later hb, h.ne⟩
theorem Tw.set {B : Nat} {w : World} {y : Value} {X Y : List Pt} {g cap : Nat} (h : Tw B w (.slice (some ⟨g, 0, none⟩) X.length cap) X y Y) (i : Nat) (hi : i < X.length) (p : Pt) :
    Tw B (((w.setCell ⟨g, i * 3, none⟩ (.int .i64 p.kind)).setCell ⟨g, i * 3 + 1, none⟩ (str p.text)).setCell ⟨g, i * 3 + 2, none⟩ (.int .i64 p.n)) (.slice (some ⟨g, 0, none⟩) X.length cap) (X.set i p) y Y := by
  have hl := pcells_length X
  have hy := h.ne g rfl
  refine ⟨⟨?_, by simpa using h.ox.le⟩, ⟨ownsRow_setCell_other (ownsRow_setCell_other (ownsRow_setCell_other h.oy.own (a := ⟨g, _, none⟩) hy _) (a := ⟨g, _, none⟩) hy _) (a := ⟨g, _, none⟩) hy _, by simpa using h.oy.le⟩, h.ne⟩
  rw [pcells_set X i p hi, List.length_set]
  exact own_cell (own_cell (own_cell h.ox.own (i * 3) (by omega) _) (i * 3 + 1) (by rw [List.length_set]; omega) _) (i * 3 + 2) (by rw [List.length_set, List.length_set]; omega) _
/-- the row's block, where there is an element -/
theorem Ow.form {base : Nat} {w : World} {v : Value} {l : List Pt} (h : Ow base w v l) (hn : 0 < l.length) : ∃ g cap, v = .slice (some ⟨g, 0, none⟩) l.length cap ∧ base ≤ g ∧ g < w.heap.size ∧ (∀ j, w.frozen? ⟨g, j, none⟩ = false) := by
  rcases h.own.2 with ⟨_, h0⟩ | ⟨g, cap, cur, e, h2, h3, _⟩
  · omega
  · have hlt : g < w.heap.size := by
      rcases Nat.lt_or_ge g w.heap.size with q | q
      · exact q
      · rw [Array.getElem?_eq_none q] at h3; cases h3
    exact ⟨g, cap, e, h2, hlt, fun j => frozen_of_row _ _ _ _ _ h3⟩
theorem tw_app {ops : Array Oper} {rest : List Oper} {o : Oper} {a : Act} {Q : Exit → Act → World → Prop} {W : World} (hgd : o.guard = none) (s x : Operand) (ho : o.op = .call { callee := .builtin .append, args := #[s, x], argTypes := #[28, 28] })
    {B : Nat} {w : World} {v y : Value} {l Y : List Pt} {g0 : Nat} (p : Pt) (hW : W = w.alloc (.cells #[.int .i64 p.kind, str p.text, .int .i64 p.n] 27)) (hT : Tw B w v l y Y) (hg : g0 = w.heap.size) (hn : l.length ≤ 1000000000)
    (hs : a.eval s = v) (hx : a.eval x = .slice (some ⟨g0, 0, none⟩) 1 1)
    (h : ∀ g cap w', Tw B w' (.slice (some ⟨g, 0, none⟩) (l.length + 1) cap) (l ++ [p]) y Y → Below B w w' → wpList Try.prog ops Q rest (a.put o.dst (.slice (some ⟨g, 0, none⟩) (l.length + 1) cap)) w') :
    wpList Try.prog ops Q (o :: rest) a W := by
  subst hW hg
  obtain ⟨i0, hi0, hz0, hz1, hz2⟩ := infoP
  have hm : maxLen = 9223372036854775807 := rfl
  have hle := hT.ox.le
  refine wpList_append_lies _ hgd s x 28 ho B 27 i0 _ 3 32 Try.underlying28 hi0 hz0 hz1 hz2 rfl (by omega) v l.length (pcells l) hs (hT.ox.own.alloc _) _ 1 1 (pcs p) hx rfl
    (World.news_of_block (cs := #[.int .i64 p.kind, str p.text, .int .i64 p.n]) (t := 27) (fr := (0, 0)) (heap_alloc_new w _)) (by simp [pcs, Value.oneCell']) (by omega) (by rw [hm]; omega) (by omega) (by simp; omega) _ rfl ?_
  intro g cap w' hown hgrow hat hlt
  have hgr := hgrow.size
  simp at hgr
  refine h g cap w' ⟨⟨?_, by omega⟩, ⟨?_, by omega⟩, ?_⟩ ?_
  · rw [pcells_append, List.length_append]
    have : pcells [p] = pcs p := by simp [pcells]
    rw [this]; exact hown
  · refine ⟨hT.oy.own.1, ?_⟩
    rcases hT.oy.own.2 with e | ⟨gy, cy, cur, e1, e2, e3, e4⟩
    · exact Or.inl e
    · refine Or.inr ⟨gy, cy, cur, e1, e2, ?_, e4⟩
      have hyl : gy < w.heap.size := by
        rcases Nat.lt_or_ge gy w.heap.size with q | q
        · exact q
        · rw [Array.getElem?_eq_none q] at e3; cases e3
      have hyn : some gy ≠ v.ownBlock := fun q => hT.ne gy q.symm (by rw [e1]; rfl)
      rw [hgrow.block gy (by simp; omega) hyn, heap_alloc_old _ _ hyl]
      exact e3
  · intro g1 hg1 hy1
    have e1 : g = g1 := by simpa [Value.ownBlock] using hg1
    subst e1
    rcases hat with q | q
    · exact hT.ne g q hy1
    · have := (hT.oy.own.lt g hy1).2
      have h2 : (w.alloc (Obj.cells #[.int .i64 p.kind, str p.text, .int .i64 p.n] 27)).heap.size = w.heap.size + 1 := by simp
      omega
  · exact ((Below.refl _ _).alloc hle _).trans (grown_below (hT.ox.own.alloc _) (by simp; omega) hgrow)
/-- the first k are marked -/
def mk (q : Pt) (M : List Pt) (k : Nat) : List Pt := List.replicate k q ++ M.drop k
theorem mk_len (q : Pt) (M : List Pt) (k : Nat) (h : k ≤ M.length) : (mk q M k).length = M.length := by simp [mk]; omega
theorem mk_zero (q : Pt) (M : List Pt) : mk q M 0 = M := by simp [mk]
theorem mk_all (q : Pt) (M : List Pt) : mk q M M.length = List.replicate M.length q := by simp [mk]
theorem mk_set (q : Pt) (M : List Pt) (k : Nat) (h : k < M.length) : (mk q M k).set k q = mk q M (k + 1) := by
  unfold mk
  rw [List.set_append_right _ _ (by simp), List.length_replicate, Nat.sub_self]
  rw [List.drop_eq_getElem_cons h, List.set_cons_zero, List.replicate_succ', List.append_assoc]
  rfl
end Go.Proofs.Ytijkabnhedmimaa
