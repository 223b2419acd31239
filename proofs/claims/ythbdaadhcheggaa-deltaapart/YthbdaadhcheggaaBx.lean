/- Boxes with a version; appends to long rows of pairs. -/
import Derived.Test.YthbdaadhcheggaaRv
namespace Go.Proofs.Ythbdaadhcheggaa
set_option linter.unusedVariables false
set_option linter.unusedSimpArgs false
open Go.RowKit
attribute [local go_sem ↓] Go.wp_at_zero Go.wp_at_succ
attribute [local go_sem ↓] slPe
theorem app_oneB {ops : Array Oper} {rest : List Oper} {o : Oper} {a : Act} {Q : Exit → Act → World → Prop} {W : World} (hgd : o.guard = none) (s x : Operand) (ho : o.op = .call { callee := .builtin .append, args := #[s, x], argTypes := #[39, 39] })
    {base : Nat} {w : World} {v : Value} {l : List En} {g : Nat} (p : En) (hW : W = w.alloc (.cells #[str p.key, str p.val] 51)) (hO : Ow base w v l) (hg : g = w.heap.size) (hn : l.length ≤ 4500000000000)
    (hs : a.eval s = v) (hx : a.eval x = .slice (some ⟨g, 0, none⟩) 1 1)
    (h : ∀ v' w', Ow base w' v' (l ++ [p]) → Below base w w' → wpList Try.prog ops Q rest (a.put o.dst v') w') :
    wpList Try.prog ops Q (o :: rest) a W := by
  obtain ⟨i0, hi0, hz0, hz1, hz2⟩ := infoP
  subst hW hg
  have hm : maxLen = 9223372036854775807 := rfl
  refine wpList_append_own_wide _ hgd s x 39 ho base 51 i0 _ 2 32 Try.underlying39 hi0 hz0 hz1 hz2 rfl (by omega) v l.length (pcells l) hs (hO.own.alloc _) _ 1 1 (pcs p) hx rfl
    (World.news_of_block (cs := #[str p.key, str p.val]) (t := 51) (fr := (0, 0)) (heap_alloc_new w _)) (by simp [pcs, Value.oneCell']) (by rw [hm]; omega) (by omega) (by have := hO.le; simp; omega) ?_
  intro v' w' hown hgrow _
  refine h v' w' ⟨?_, ?_⟩ ?_
  · rw [pcells_append, List.length_append]
    have : pcells [p] = pcs p := by simp [pcells]
    rw [this]; exact hown
  · have := hgrow.size; have h2 := hO.le; simp at this; omega
  · exact ((Below.refl _ _).alloc hO.le _).trans (grown_below (hO.own.alloc _) (by have := hO.le; simp; omega) hgrow)
theorem app_sliceB {ops : Array Oper} {rest : List Oper} {o : Oper} {a : Act} {Q : Exit → Act → World → Prop} {w : World} (hgd : o.guard = none) (s x : Operand) (ho : o.op = .call { callee := .builtin .append, args := #[s, x], argTypes := #[39, 39] })
    {base : Nat} {v : Value} {l : List En} {ad : Option Addr} {k c : Nat} (q : List En) (hO : Ow base w v l) (hS : Sl w ad c q) (hk : q.length = k) (hn : l.length + q.length ≤ 4500000000000)
    (hs : a.eval s = v) (hx : a.eval x = .slice ad k c)
    (h : ∀ v' w', Ow base w' v' (l ++ q) → Below base w w' → wpList Try.prog ops Q rest (a.put o.dst v') w') :
    wpList Try.prog ops Q (o :: rest) a w := by
  obtain ⟨i0, hi0, hz0, hz1, hz2⟩ := infoP
  have hm : maxLen = 9223372036854775807 := rfl
  subst hk
  cases ad with
  | none =>
    have hc := hS.nil rfl
    have h0 : q.length = 0 := by have := hS.le; omega
    have hq : q = [] := List.eq_nil_of_length_eq_zero h0
    subst hq hc
    refine wpList_plain hgd fun K hK' => ?_
    have hrun := run_append_owned_none (P := Try.prog) w base 39 o.type 51 i0 2 Try.underlying39 hi0 _ l.length (pcells l) hO.own
    unfold Oper.wp
    simp [execOp, ho, resolve, invoke, builtin, hs, hx, hrun, Result.andThen]
    exact hK' _ _ (h v w (by simpa using hO) (Below.refl _ _))
  | some ad =>
    have hspot : q.length = 0 ∨ ad.spot = none := by
      rcases Nat.eq_zero_or_pos q.length with h0 | h0
      · exact Or.inl h0
      · obtain ⟨b, off, e, _⟩ := hS.at'.get 0 q[0] (List.getElem?_eq_getElem h0)
        injection e with e
        exact Or.inr (by rw [e])
    have hcells : ∀ j u, (pcells q)[j]? = some u → w.cell? (ad.add j) = some u := by
      rcases hspot with h0 | h0
      · intro j u hj
        have hq : q = [] := List.eq_nil_of_length_eq_zero h0
        subst hq
        simp [pcells] at hj
      · obtain ⟨b, off, sp⟩ := ad
        simp at h0
        subst h0
        exact hS.at'.cells
    refine wpList_append_own_wide _ hgd s x 39 ho base 51 i0 _ 2 32 Try.underlying39 hi0 hz0 hz1 hz2 rfl (by omega) v l.length (pcells l) hs hO.own ad q.length c (pcells q) hx (pcells_length q) hcells (pcells_one q) (by rw [hm]; omega) (by omega) hO.le ?_
    intro v' w' hown hgrow _
    refine h v' w' ⟨?_, ?_⟩ (grown_below hO.own hO.le hgrow)
    · rw [pcells_append, List.length_append]; exact hown
    · have := hgrow.size; have h2 := hO.le; omega
def mk : En := ⟨[109, 97, 114, 107], []⟩
theorem Sl.head {w : World} {a : Option Addr} {cap : Nat} {l : List En} {m : En} (h : Sl w a cap (l ++ [m])) : Sl w a cap l := by
  have := h.take l.length
  rw [List.take_left] at this
  exact this
/-- a box with a version -/
def Bv (w : World) (g : Nat) (x y z u v : Value) : Prop := w.heap[g]? = some (.cells #[x, y, z, u, v] 41 (0, 0))
theorem Bv.lt {w : World} {g : Nat} {x y z u v : Value} (h : Bv w g x y z u v) : g < w.heap.size := (Array.getElem?_eq_some_iff.1 h).1
theorem Bv.cells {w : World} {g : Nat} {x y z u v : Value} (h : Bv w g x y z u v) : w.cell? ⟨g, 0, none⟩ = some x ∧ w.cell? ⟨g, 1, none⟩ = some y ∧ w.cell? ⟨g, 2, none⟩ = some z ∧ w.cell? ⟨g, 3, none⟩ = some u ∧ w.cell? ⟨g, 4, none⟩ = some v ∧ ∀ j, w.frozen? ⟨g, j, none⟩ = false := by
  refine ⟨?_, ?_, ?_, ?_, ?_, fun j => frozen_of_row _ _ _ _ _ h⟩
  all_goals rw [cell_of_row _ _ _ _ _ _ h]; rfl
theorem Bv.later {w w' : World} {g : Nat} {x y z u v : Value} (h : Bv w g x y z u v) (hb : Below w.heap.size w w') : Bv w' g x y z u v := by
  unfold Bv
  rw [hb.block g h.lt]; exact h
theorem Bv.drew {w : World} {g : Nat} {x y z u v : Value} (h : Bv w g x y z u v) : Bv w.drew g x y z u v := h
theorem Bv.new (w : World) (x y z u v : Value) : Bv (w.alloc (.cells #[x, y, z, u, v] 41)) w.heap.size x y z u v := heap_alloc_new _ _
theorem Bv.other {w : World} {g : Nat} {x y z u v : Value} (h : Bv w g x y z u v) {g2 j : Nat} (hg : g ≠ g2) (c : Value) : Bv (w.setCell ⟨g2, j, none⟩ c) g x y z u v := by
  unfold Bv
  rw [heap_setCell_other _ _ _ _ (by first | exact hg | exact hg.symm)]; exact h
theorem Bv.set0 {w : World} {g : Nat} {x y z u v : Value} (h : Bv w g x y z u v) (c : Value) : Bv (w.setCell ⟨g, 0, none⟩ c) g c y z u v := by
  unfold Bv
  rw [heap_setCell_same _ _ _ _ _ _ h]; rfl
theorem Bv.set1 {w : World} {g : Nat} {x y z u v : Value} (h : Bv w g x y z u v) (c : Value) : Bv (w.setCell ⟨g, 1, none⟩ c) g x c z u v := by
  unfold Bv
  rw [heap_setCell_same _ _ _ _ _ _ h]; rfl
theorem Bv.set2 {w : World} {g : Nat} {x y z u v : Value} (h : Bv w g x y z u v) (c : Value) : Bv (w.setCell ⟨g, 2, none⟩ c) g x y c u v := by
  unfold Bv
  rw [heap_setCell_same _ _ _ _ _ _ h]; rfl
theorem Bv.set3 {w : World} {g : Nat} {x y z u v : Value} (h : Bv w g x y z u v) (c : Value) : Bv (w.setCell ⟨g, 3, none⟩ c) g x y z c v := by
  unfold Bv
  rw [heap_setCell_same _ _ _ _ _ _ h]; rfl
theorem Bv.set4 {w : World} {g : Nat} {x y z u v : Value} (h : Bv w g x y z u v) (c : Value) : Bv (w.setCell ⟨g, 4, none⟩ c) g x y z u c := by
  unfold Bv
  rw [heap_setCell_same _ _ _ _ _ _ h]; rfl
theorem Ow.other {base : Nat} {w : World} {v : Value} {l : List En} (h : Ow base w v l) {g j : Nat} (hg : v.ownBlock ≠ some g) (c : Value) : Ow base (w.setCell ⟨g, j, none⟩ c) v l :=
  ⟨ownsRow_setCell_other h.own (a := ⟨g, _, none⟩) hg _, by simpa using h.le⟩
/-- a whole version is laid into a box -/
def s5 (w : World) (R : Nat) (a b c d e : Value) : World := ((((w.setCell ⟨R, 0, none⟩ a).setCell ⟨R, 1, none⟩ b).setCell ⟨R, 2, none⟩ c).setCell ⟨R, 3, none⟩ d).setCell ⟨R, 4, none⟩ e
theorem s5_eq (w : World) (R : Nat) (a b c d e : Value) : ((((w.setCell ⟨R, 0, none⟩ a).setCell ⟨R, 1, none⟩ b).setCell ⟨R, 2, none⟩ c).setCell ⟨R, 3, none⟩ d).setCell ⟨R, 4, none⟩ e = s5 w R a b c d e := rfl
theorem Bv.s5 {w : World} {R : Nat} {x y z u v : Value} (h : Bv w R x y z u v) (a b c d e : Value) : Bv (s5 w R a b c d e) R a b c d e := ((((h.set0 a).set1 b).set2 c).set3 d).set4 e
theorem Ow.s5 {base : Nat} {w : World} {v : Value} {l : List En} (h : Ow base w v l) {R : Nat} (hg : v.ownBlock ≠ some R) (a b c d e : Value) : Ow base (s5 w R a b c d e) v l := ((((h.other hg a).other hg b).other hg c).other hg d).other hg e
theorem Below.s5 {B : Nat} {w w' : World} (h : Below B w w') {R : Nat} (hR : B ≤ R) (a b c d e : Value) : Below B w (s5 w' R a b c d e) :=
  ((((h.setCell (p := ⟨R, 0, none⟩) hR a).setCell (p := ⟨R, 1, none⟩) hR b).setCell (p := ⟨R, 2, none⟩) hR c).setCell (p := ⟨R, 3, none⟩) hR d).setCell (p := ⟨R, 4, none⟩) hR e
theorem results_cell1 {fn : Func} {p : Tmp} {ty : TypeId} (h : fn.results = #[.cell p ty]) (tmps : Array Value) (P : Program) (w : World) :
    (results fn tmps).run P w = ((asAddr (tmps.getD p undef)).run P w).andThen fun a w₁ => (loadVar ty a).run P w₁ := by
  simp only [results, h]
  simp [Sem.run_bind, Result.andThen]
theorem Fo.other {base : Nat} {w : World} {v : Value} {R : List Rv} (h : Fo base w v R) {g j : Nat} (hg : v.ownBlock ≠ some g) (hm : ∀ (k : Nat) (r : Rv), R[k]? = some r → r.mv.ownBlock ≠ some g) (c : Value) : Fo base (w.setCell ⟨g, j, none⟩ c) v R :=
  ⟨ownsRow_setCell_other h.own (a := ⟨g, _, none⟩) hg _, by simpa using h.le, fun k r hk => (h.met k r hk).other (hm k r hk) c, h.par⟩
theorem Fo.up {base B : Nat} {w w' : World} {v : Value} {R : List Rv} (h : Fo base w v R) (hb : Below B w w') (hx : ∀ g, (v.ownBlock = some g ∨ ∃ (k : Nat) (r : Rv), R[k]? = some r ∧ r.mv.ownBlock = some g) → g < B) : Fo base w' v R :=
  ⟨own_same h.own (fun g hg => hb.block g (hx g (.inl hg))), Nat.le_trans h.le hb.size, fun k r hk => (h.met k r hk).same hb.size (fun g hg => hb.block g (hx g (.inr ⟨k, r, hk, hg⟩))), h.par⟩
end Go.Proofs.Ythbdaadhcheggaa
