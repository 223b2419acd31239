import Derived.Test.YthbdaadhcheggaaBx
import Derived.RangeFuncNested
import Derived.RangeFuncBound
import Derived.RangeFuncCalls
import Derived.RangeFuncLeaves
import Derived.RangeFuncBox
import Derived.Shelf.Abstract
import Derived.Shelf.RegionOpen
import Derived.OwnWalkIn
import Derived.TacticsInMore
import Derived.LoopNIn
import Derived.LoopIn
/- copied, Own, own: a version with pairs of its own. -/
namespace Go.Proofs.Ythbdaadhcheggaa
set_option linter.unusedVariables false
set_option linter.unusedSimpArgs false
open Go.RowKit
attribute [local go_sem ↓] Go.wp_at_zero Go.wp_at_succ
attribute [local go_sem ↓] slPe
end Go.Proofs.Ythbdaadhcheggaa

/- copies, Copy, copied: a list of one's own. -/
namespace Go.Proofs.Ythbdaadhcheggaa
set_option linter.unusedVariables false
set_option linter.unusedSimpArgs false
open Go.RowKit
attribute [local go_sem ↓] Go.wp_at_zero Go.wp_at_succ
attribute [local go_sem ↓] slPe
end Go.Proofs.Ythbdaadhcheggaa

/- place: where the version with a number stands. -/
namespace Go.Proofs.Ythbdaadhcheggaa
set_option linter.unusedVariables false
set_option linter.unusedSimpArgs false
open Go.RowKit
attribute [local go_sem ↓] Go.wp_at_zero Go.wp_at_succ
attribute [local go_sem ↓] slPe
theorem plc_step {L : List Vs} {s : Int} {k : Nat} {u : Vs} (hu : L[k]? = some u) (hne : ¬ u.seq = s) (h : ∀ j v, j < k → L[j]? = some v → ¬ v.seq = s) : ∀ j v, j < k + 1 → L[j]? = some v → ¬ v.seq = s := fun j v hj hv => by
  by_cases e : j = k
  · subst e
    rw [hu] at hv
    injection hv with hv
    subst hv
    exact hne
  · exact h j v (by omega) hv
theorem plc_all {L : List Vs} {s : Int} (h : ∀ j v, j < L.length → L[j]? = some v → ¬ v.seq = s) : plc L s = none := plc_no fun v hv => by
  obtain ⟨j, hj, e⟩ := List.getElem_of_mem hv
  exact h j v hj (by rw [List.getElem?_eq_getElem hj, e])
theorem lss_meas {n k : Nat} (h : k < n) : n - (k + 1) < n - k := Nat.sub_lt_sub_left h (Nat.lt_succ_self k)
end Go.Proofs.Ythbdaadhcheggaa

/- slices.Backward over a list of versions; newest. -/
namespace Go.Proofs.Ythbdaadhcheggaa
set_option linter.unusedVariables false
set_option linter.unusedSimpArgs false
open Go.RowKit Go.Shelf
attribute [local go_sem] Oper.semAt_some
/-- a version as it is handed on -/
structure Xv where
  v : Vs
  a : Option Addr
  c : Nat
abbrev Xv.val (x : Xv) : Value := vv x.v.key x.v.seq x.v.mkr x.v.data x.a x.v.l.length x.c
/-- the cells of the version at place k -/
def At5 (w : World) (b off k : Nat) (x : Xv) : Prop := w.cell? ⟨b, off + k * 5, none⟩ = some (str x.v.key) ∧ w.cell? ⟨b, off + k * 5 + 1, none⟩ = some (.int .i64 x.v.seq) ∧ w.cell? ⟨b, off + k * 5 + 2, none⟩ = some (.bool x.v.mkr) ∧ w.cell? ⟨b, off + k * 5 + 3, none⟩ = some (str x.v.data) ∧ w.cell? ⟨b, off + k * 5 + 4, none⟩ = some (.slice x.a x.v.l.length x.c)
theorem At5.low {w w' : World} {b off k : Nat} {x : Xv} {n : Nat} (h : At5 w b off k x) (hb : Below n w w') (hn : b < n) : At5 w' b off k x :=
  ⟨(hb.cell (p := ⟨b, _, none⟩) hn).trans h.1, (hb.cell (p := ⟨b, _, none⟩) hn).trans h.2.1, (hb.cell (p := ⟨b, _, none⟩) hn).trans h.2.2.1, (hb.cell (p := ⟨b, _, none⟩) hn).trans h.2.2.2.1, (hb.cell (p := ⟨b, _, none⟩) hn).trans h.2.2.2.2⟩
theorem LIn.fn {w : World} {a : Option Addr} {L : List Vs} (h : LIn w a L) : ∃ E : Nat → Xv, ∀ k v, L[k]? = some v → (E k).v = v ∧ Sl w (E k).a (E k).c v.l ∧ ∃ b off, a = some ⟨b, off, none⟩ ∧ b < w.heap.size ∧ At5 w b off k (E k) := by
  classical
  have h2 : ∀ k, ∃ x : Xv, ∀ v, L[k]? = some v → x.v = v ∧ Sl w x.a x.c v.l ∧ ∃ b off, a = some ⟨b, off, none⟩ ∧ b < w.heap.size ∧ At5 w b off k x := fun k => by
    cases hk : L[k]? with
    | none => exact ⟨⟨vs0, none, 0⟩, fun v hv => by cases hv⟩
    | some v =>
      obtain ⟨b, off, ma, mc, h1, h2, c0, c1, c2, c3, c4, s⟩ := h.get k v hk
      refine ⟨⟨v, ma, mc⟩, fun u hu => ?_⟩
      injection hu with hu
      subst hu
      exact ⟨rfl, s, b, off, h1, h2, c0, c1, c2, c3, c4⟩
  exact ⟨fun k => Classical.choose (h2 k), fun k v hv => Classical.choose_spec (h2 k) v hv⟩
def upz {α : Type} (f : Nat → α) (k : Nat) : List α := (List.range k).map f
theorem upz_succ {α : Type} (f : Nat → α) (k : Nat) : upz f (k + 1) = upz f k ++ [f k] := by simp [upz, List.range_succ]
theorem upz_length {α : Type} (f : Nat → α) (k : Nat) : (upz f k).length = k := by simp [upz]
/-- what a round keeps: what lay below, and the box with the list -/
def KB (n₀ Bs : Nat) (W W' : World) : Prop := Below n₀ W W' ∧ W'.heap[Bs]? = W.heap[Bs]?
theorem KB.t {n₀ Bs : Nat} {A B C : World} (h : KB n₀ Bs A B) (h2 : KB n₀ Bs B C) : KB n₀ Bs A C := ⟨h.1.trans h2.1, h2.2.trans h.2⟩
theorem KB.b {n₀ Bs : Nat} {w : World} (hn : n₀ ≤ w.heap.size) (hB : Bs < w.heap.size) : ∀ (W : World) (l : Nat) (o o' : Obj), w.heap.size ≤ l → W.heap[l]? = some o → o.isCells = false → o.isWalk = false → KB n₀ Bs W (W.putObj l o') := fun W l o o' hl ho h1 h2 =>
  ⟨belowK_b (w := w) hn W l o o' hl ho h1 h2, World.putObj_heap_other (by omega)⟩
abbrev bkF (E : Nat → Xv) (len : Nat) : Nat → Nat × Xv := fun j => (len - 1 - j, E (len - 1 - j))
end Go.Proofs.Ythbdaadhcheggaa

/- newest. -/
namespace Go.Proofs.Ythbdaadhcheggaa
set_option linter.unusedVariables false
set_option linter.unusedSimpArgs false
open Go.RowKit Go.Shelf
attribute [local go_sem] Oper.semAt_some
theorem cells_kept {A B : World} {row : Option Nat} {g : Nat} {cs : Array Value} {t : TypeId} {fr : Nat × Nat} (h : A.heap[g]? = some (.cells cs t fr)) (hg : A.grownBy B row) (hr : ∀ r, row = some r → ∃ o : Obj, A.heap[r]? = some o ∧ o.isCells = false) : B.heap[g]? = some (.cells cs t fr) := by
  rw [hg.block g (lt_of_block h) (fun q => by
    obtain ⟨o, h1, h2⟩ := hr g q.symm
    rw [h] at h1
    injection h1 with h1
    subst h1
    cases h2)]
  exact h
theorem own_cells {β : Type} (g : Nat) (f : β → Array Value) (t : TypeId) : Own (fun (s : β) W => W.heap[g]? = some (.cells (f s) t (0, 0))) := fun s A B row hs hg hr => cells_kept hs hg (fun r e => hr r e)
theorem results_c2 {fn : Func} {p q : Tmp} {ty tq : TypeId} (h : fn.results = #[.cell p ty, .cell q tq]) (tmps : Array Value) (P : Program) (w : World) :
    (results fn tmps).run P w = ((asAddr (tmps.getD p undef)).run P w).andThen fun a w₁ => ((loadVar ty a).run P w₁).andThen fun v w₂ => ((asAddr (tmps.getD q undef)).run P w₂).andThen fun b w₃ => ((loadVar tq b).run P w₃).andThen fun u w₄ => .ok (.tuple #[v, u]) w₄ := by
  simp only [results, h]
  simp [Sem.run_bind, Result.andThen]
theorem s5_heap {w : World} {R g : Nat} (hg : g ≠ R) {a b c d e : Value} : (s5 w R a b c d e).heap[g]? = w.heap[g]? := by
  unfold s5
  rw [heap_setCell_other _ _ _ _ (by first | exact hg | exact hg.symm), heap_setCell_other _ _ _ _ (by first | exact hg | exact hg.symm), heap_setCell_other _ _ _ _ (by first | exact hg | exact hg.symm), heap_setCell_other _ _ _ _ (by first | exact hg | exact hg.symm), heap_setCell_other _ _ _ _ (by first | exact hg | exact hg.symm)]
abbrev z5c : Array Value := #[.string ⟨#[]⟩, .int .i64 0, .bool false, .string ⟨#[]⟩, .slice none 0 0]
abbrev c5 (x : Xv) : Array Value := #[str x.v.key, .int .i64 x.v.seq, .bool x.v.mkr, str x.v.data, .slice x.a x.v.l.length x.c]
end Go.Proofs.Ythbdaadhcheggaa
