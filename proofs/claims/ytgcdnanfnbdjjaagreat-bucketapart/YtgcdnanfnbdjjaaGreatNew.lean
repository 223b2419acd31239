/- newest. -/
import Derived.Test.YtgcdnanfnbdjjaaGreatBak
namespace Go.Proofs.YtgcdnanfnbdjjaaGreat
set_option linter.unusedVariables false
set_option linter.unusedSimpArgs false
open Go.RowKit Go.Shelf
attribute [local go_sem] Oper.semAt_some
theorem cells_kept {A B : World} {row : Option Nat} {g : Nat} {cs : Array Value} {t : TypeId} {fr : Nat × Nat} (h : A.heap[g]? = some (.cells cs t fr)) (hg : A.grownBy B row) (hr : ∀ r, row = some r → ∃ o : Obj, A.heap[r]? = some o ∧ o.isCells = false) : B.heap[g]? = some (.cells cs t fr) := by
  rw [hg.block g (lt_of_block h) (fun q => by
    obtain ⟨o, h1, h2⟩ := hr g q.symm
    rw [h] at h1
    injection h1 with h1
    subst h1
    cases h2)]
  exact h
theorem own_cells {β : Type} (g : Nat) (f : β → Array Value) (t : TypeId) : Own (fun (s : β) W => W.heap[g]? = some (.cells (f s) t (0, 0))) := fun s A B row hs hg hr => cells_kept hs hg (fun r e => hr r e)
theorem results_c2 {fn : Func} {p q : Tmp} {ty tq : TypeId} (h : fn.results = #[.cell p ty, .cell q tq]) (tmps : Array Value) (P : Program) (w : World) :
    (results fn tmps).run P w = ((asAddr (tmps.getD p undef)).run P w).andThen fun a w₁ => ((loadVar ty a).run P w₁).andThen fun v w₂ => ((asAddr (tmps.getD q undef)).run P w₂).andThen fun b w₃ => ((loadVar tq b).run P w₃).andThen fun u w₄ => .ok (.tuple #[v, u]) w₄ := by
  simp only [results, h]
  simp [Sem.run_bind, Result.andThen]
theorem s5_heap {w : World} {R g : Nat} (hg : g ≠ R) {a b c d e : Value} : (s5 w R a b c d e).heap[g]? = w.heap[g]? := by
  unfold s5
  rw [heap_setCell_other _ _ _ _ (by first | exact hg | exact hg.symm), heap_setCell_other _ _ _ _ (by first | exact hg | exact hg.symm), heap_setCell_other _ _ _ _ (by first | exact hg | exact hg.symm), heap_setCell_other _ _ _ _ (by first | exact hg | exact hg.symm), heap_setCell_other _ _ _ _ (by first | exact hg | exact hg.symm)]
abbrev z5c : Array Value := #[.string ⟨#[]⟩, .int .i64 0, .bool false, .string ⟨#[]⟩, .slice none 0 0]
abbrev c5 (x : Xv) : Array Value := #[str x.v.key, .int .i64 x.v.seq, .bool x.v.mkr, str x.v.data, .slice x.a x.v.l.length x.c]
set_option maxRecDepth 100000 in
set_option maxHeartbeats 2000000 in
theorem newest_in (L : List Vs) (w : World) (a : Option Addr) (n cap : Nat) (hn : L.length = n) (hS : Ls w a cap L) (hL : L.length ≤ 1954687338300) :
    CallsIn Fence.wide 5 Tryz.prog 77 #[.slice a n cap] w fun e w' => ((L = [] ∧ e = .returned (.tuple #[vv [] 0 false [] none 0 0, .bool false])) ∨ ∃ x : Xv, lastV L = some x.v ∧ Sl w x.a x.c x.v.l ∧ e = .returned (.tuple #[x.val, .bool true])) ∧ Below w.heap.size w w' := by
  subst hn
  obtain ⟨E, hE⟩ := hS.at'.fn
  refine callsIn_of_wp_marks Tryz.func77 rfl trivial ?_ rfl
  simp only [Tryz.ntmps77, List.size_toArray, List.length_cons, List.length_nil, Nat.reduceAdd, Nat.reduceSub, Array.replicate_succ, Array.replicate_zero, List.push_toArray, List.append_toArray, List.nil_append, List.cons_append]
  gi_wp2_with (refine ⟨trivial, ?_⟩; gi_at_call 83; refine (back_in _ _ _ _ _).mono ?_; rintro e w' ⟨rfl, rfl⟩)
  obtain ⟨W0, hW0⟩ : ∃ W0, ((w.alloc (.cells z5c 39)).alloc (.cells #[.bool false] 4)).alloc (.cells #[.slice a L.length cap] 22) = W0 := ⟨_, rfl⟩
  rw [hW0]
  have hsz : W0.heap.size = w.heap.size + 3 := by rw [← hW0]; simp
  have hB0 : Below w.heap.size w W0 := by rw [← hW0]; exact (((Below.refl _ w).alloc (Nat.le_refl _) _).alloc (by simp) _).alloc (by simp; omega) _
  have x0 : W0.heap[w.heap.size]? = some (.cells z5c 39 (0, 0)) := by
    rw [← hW0, heap_alloc_old _ _ (by simp; omega), heap_alloc_old _ _ (by simp)]; exact heap_alloc_new _ _
  have x1 : W0.heap[w.heap.size + 1]? = some (.cells #[.bool false] 4 (0, 0)) := by
    rw [← hW0, heap_alloc_old _ _ (by simp)]
    have := heap_alloc_new (w.alloc (.cells z5c 39)) (.cells #[.bool false] 4)
    rw [World.size_alloc] at this; exact this
  have x2 : W0.heap[w.heap.size + 1 + 1]? = some (.cells #[.slice a L.length cap] 22 (0, 0)) := by
    rw [← hW0]
    have := heap_alloc_new ((w.alloc (.cells z5c 39)).alloc (.cells #[.bool false] 4)) (.cells #[.slice a L.length cap] 22)
    rw [World.size_alloc, World.size_alloc] at this; exact this
  clear hW0
  refine wpIn_rangeFunc_ownH rfl (by omega) (gf := 94) (lb := #[.pointer (some ⟨w.heap.size + 1 + 1, 0, none⟩)]) rfl trivial (enters_of Tryz.func94 (by kernel_rfl) rfl)
    (back_stops 4 (by omega) (w.heap.size + 1 + 1) w.heap.size L.length cap a E hL W0 hB0.size x2 (fun j hj => by
      obtain ⟨_, _, b, off, e1, e2, e3⟩ := hE j L[j] (List.getElem?_eq_getElem hj)
      exact ⟨b, off, e1, e2, e3.low hB0 e2⟩)) KB.t (KB.b hB0.size (by omega)) (Below.refl _ _) (fun _ => rfl)
    (fun pre W => (Hid (pre = []) ∧ W.heap[w.heap.size]? = some (.cells z5c 39 (0, 0)) ∧ W.heap[w.heap.size + 1]? = some (.cells #[.bool false] 4 (0, 0)) ∧ W.heap[w.heap.size + 1 + 1]? = some (.cells #[.slice a L.length cap] 22 (0, 0))) ∧ Below w.heap.size w W)
    (fun c pre W => (c = .ret ∧ (∃ x : Nat × Xv, pre = [x] ∧ W.heap[w.heap.size]? = some (.cells (c5 x.2) 39 (0, 0))) ∧ W.heap[w.heap.size + 1]? = some (.cells #[.bool true] 4 (0, 0))) ∧ Below w.heap.size w W)
    (OwnFrom.and (Own.from (fun s A B row hs hg hr => ⟨hs.1, cells_kept hs.2.1 hg hr, cells_kept hs.2.2.1 hg hr, cells_kept hs.2.2.2 hg hr⟩) _) (ownFrom_below (Nat.le_refl _) (by omega)))
    (fun c => OwnFrom.and (Own.from (fun s A B row hs hg hr => by
      obtain ⟨h1, ⟨x, h2, h3⟩, h4⟩ := hs
      exact ⟨h1, ⟨x, h2, cells_kept h3 hg hr⟩, cells_kept h4 hg hr⟩) _) (ownFrom_below (Nat.le_refl _) (by omega)))
    ⟨⟨⟨rfl⟩, x0, x1, x2⟩, hB0⟩
    (fun x a' W => ∃ Bx, w.heap.size + 2 < Bx ∧ W.heap[Bx]? = some (.cells (c5 x.2) 39 (0, 0)) ∧ ∃ y8 y9 y10, a' = { tmps := #[.slice a L.length cap, undef, .pointer (some ⟨w.heap.size, 0, none⟩), .pointer (some ⟨w.heap.size + 1, 0, none⟩), undef, .pointer (some ⟨Bx, 0, none⟩), .slice a L.length cap, .func (.func 94) #[] #[.pointer (some ⟨w.heap.size + 1 + 1, 0, none⟩)], y8, y9, y10, undef], defers := [] })
    (fun x a' => Own.from (fun s A B row hs hg hr => by
      obtain ⟨Bx, h1, h2, h3⟩ := hs
      exact ⟨Bx, h1, cells_kept h2 hg hr, h3⟩) _) ?assign ?body ?done ?stop
  case assign =>
    rintro l pre x W K ⟨⟨⟨rfl⟩, h0, h1, h2⟩, hB⟩ hK
    have hlt2 := lt_of_block h2
    gi_wp2
    exact hK _ _ ((KeepsOthers.alloc _ _).from _) ⟨(Below.refl _ W).alloc hB.size _, heap_alloc_old _ _ hlt2⟩ ⟨⟨⟨by first | rfl | trivial⟩, by rw [heap_alloc_old _ _ (by omega)]; exact h0, by rw [heap_alloc_old _ _ (by omega)]; exact h1, by rw [heap_alloc_old _ _ hlt2]; exact h2⟩, hB.alloc hB.size _⟩ ⟨W.heap.size, by omega, heap_alloc_new _ _, _, _, _, rfl⟩
  case body =>
    rintro l pre x a' W hl ⟨r, hr⟩ ⟨⟨⟨rfl⟩, h0, h1, h2⟩, hB⟩ ⟨Bx, hBx, bX, y8, y9, y10, rfl⟩ hlt
    obtain ⟨q0, q1, q2, q3, q4, _⟩ := Bv.cells bX
    obtain ⟨r0, r1, r2, r3, r4, rf⟩ := Bv.cells h0
    have rf0 := rf 0
    have rf1 := rf 1
    have rf2 := rf 2
    have rf3 := rf 3
    have rf4 := rf 4
    clear rf
    have f1 := free_of_one h1
    have k1 := cell_of_one h1
    have n0 := Bv.s5 h0 (str x.2.v.key) (.int .i64 x.2.v.seq) (.bool x.2.v.mkr) (str x.2.v.data) (.slice x.2.a x.2.v.l.length x.2.c)
    have n1 : (s5 W w.heap.size (str x.2.v.key) (.int .i64 x.2.v.seq) (.bool x.2.v.mkr) (str x.2.v.data) (.slice x.2.a x.2.v.l.length x.2.c)).heap[w.heap.size + 1]? = some (.cells #[.bool false] 4 (0, 0)) := by
      rw [s5_heap (by omega)]; exact h1
    have B1 := (Below.s5 hB (R := w.heap.size) (Nat.le_refl _) (str x.2.v.key) (.int .i64 x.2.v.seq) (.bool x.2.v.mkr) (str x.2.v.data) (.slice x.2.a x.2.v.l.length x.2.c)).setCell (p := ⟨w.heap.size + 1, 0, none⟩) (by show _ ≤ w.heap.size + 1; omega) (.bool true)
    have B2 : KeepsOthers W ((s5 W w.heap.size (str x.2.v.key) (.int .i64 x.2.v.seq) (.bool x.2.v.mkr) (str x.2.v.data) (.slice x.2.a x.2.v.l.length x.2.c)).setCell ⟨w.heap.size + 1, 0, none⟩ (.bool true)) :=
      ((((((KeepsOthers.setCell _ _ _).trans (KeepsOthers.setCell _ _ _)).trans (KeepsOthers.setCell _ _ _)).trans (KeepsOthers.setCell _ _ _)).trans (KeepsOthers.setCell _ _ _)).trans (KeepsOthers.setCell _ _ _))
    have n2 := one_setCell (u := .bool true) n1
    have n3 := Bv.other n0 (g2 := w.heap.size + 1) (j := 0) (by omega) (.bool true)
    gi_wp2
    exact ⟨B2.from _, ⟨rfl, ⟨x, rfl, n3⟩, n2⟩, B1⟩
  case done =>
    rintro D ys W hD hys ⟨⟨⟨rfl⟩, h0, h1, h2⟩, hB⟩ hK
    obtain ⟨r0, r1, r2, r3, r4, rf⟩ := Bv.cells h0
    have rf0 := rf 0
    have rf1 := rf 1
    have rf2 := rf 2
    have rf3 := rf 3
    have rf4 := rf 4
    clear rf
    have f1 := free_of_one h1
    have k1 := cell_of_one h1
    have hl0 : L = [] := by
      have := congrArg List.length hys
      rw [upz_length] at this
      exact List.eq_nil_of_length_eq_zero this.symm
    have n0 := Bv.s5 h0 (.string ⟨#[]⟩) (.int .i64 0) (.bool false) (.string ⟨#[]⟩) (.slice none 0 0)
    have n1 : (s5 W w.heap.size (.string ⟨#[]⟩) (.int .i64 0) (.bool false) (.string ⟨#[]⟩) (.slice none 0 0)).heap[w.heap.size + 1]? = some (.cells #[.bool false] 4 (0, 0)) := by
      rw [s5_heap (by omega)]; exact h1
    have B1 := (Below.s5 hB (R := w.heap.size) (Nat.le_refl _) (.string ⟨#[]⟩) (.int .i64 0) (.bool false) (.string ⟨#[]⟩) (.slice none 0 0)).setCell (p := ⟨w.heap.size + 1, 0, none⟩) (by show _ ≤ w.heap.size + 1; omega) (.bool false)
    have B2 : KeepsOthers W ((s5 W w.heap.size (.string ⟨#[]⟩) (.int .i64 0) (.bool false) (.string ⟨#[]⟩) (.slice none 0 0)).setCell ⟨w.heap.size + 1, 0, none⟩ (.bool false)) :=
      ((((((KeepsOthers.setCell _ _ _).trans (KeepsOthers.setCell _ _ _)).trans (KeepsOthers.setCell _ _ _)).trans (KeepsOthers.setCell _ _ _)).trans (KeepsOthers.setCell _ _ _)).trans (KeepsOthers.setCell _ _ _))
    have n2 := one_setCell (u := .bool false) n1
    have n3 := Bv.other n0 (g2 := w.heap.size + 1) (j := 0) (by omega) (.bool false)
    have hK' := B2.same D _ hK rfl
    clear h0 h1 h2 hys hE hS n0 n1 B2
    gi_wp2
    rw [s5_eq]
    generalize (s5 W w.heap.size (.string ⟨#[]⟩) (.int .i64 0) (.bool false) (.string ⟨#[]⟩) (.slice none 0 0)).setCell ⟨w.heap.size + 1, 0, none⟩ (.bool false) = W5 at *
    refine ⟨by simp, .inl ⟨_, _, rfl, run_takeDeferred hK', ?_⟩⟩
    have m3 := cells_kept n3 (grownBy_putObj' _ D (.deferred none)) (fun r e => by cases e; exact ⟨_, hK', rfl⟩)
    have m2 := cells_kept n2 (grownBy_putObj' _ D (.deferred none)) (fun r e => by cases e; exact ⟨_, hK', rfl⟩)
    obtain ⟨g0, g1, g2, g3, g4, _⟩ := Bv.cells m3
    have g5 := cell_of_one m2
    refine ⟨.tuple #[vv [] 0 false [] none 0 0, .bool false], ?_, .inl ⟨hl0, rfl⟩, B1.trans (belowK_b (w := w) (Nat.le_refl _) _ D _ _ (by omega) hK' rfl rfl)⟩
    rw [results_c2 rfl]
    go_simp
  case stop =>
    rintro D c pre W hD ⟨k, hk, hp⟩ ⟨⟨rfl, ⟨x, rfl, h0⟩, h1⟩, hB⟩ hK
    gi_wp2
    refine ⟨by simp, .inl ⟨_, _, rfl, run_takeDeferred hK, ?_⟩⟩
    have m3 := cells_kept h0 (grownBy_putObj' _ D (.deferred none)) (fun r e => by cases e; exact ⟨_, hK, rfl⟩)
    have m2 := cells_kept h1 (grownBy_putObj' _ D (.deferred none)) (fun r e => by cases e; exact ⟨_, hK, rfl⟩)
    obtain ⟨g0, g1, g2, g3, g4, _⟩ := Bv.cells m3
    have g5 := cell_of_one m2
    have hk1 : k = 1 := by
      have := congrArg List.length hp
      rw [upz_length] at this
      exact this.symm
    subst hk1
    have hx : x = (L.length - 1, E (L.length - 1)) := by
      have : upz (bkF E L.length) 1 = [(L.length - 1 - 0, E (L.length - 1 - 0))] := rfl
      rw [this] at hp
      injection hp
    obtain ⟨u, hu1, hu2⟩ := lastV_at (L := L) (by omega)
    obtain ⟨e1, e2, _⟩ := hE _ _ hu1
    subst hx
    refine ⟨.tuple #[(E (L.length - 1)).val, .bool true], ?_, .inr ⟨E (L.length - 1), by rw [hu2, e1], by rw [e1]; exact e2, rfl⟩, hB.trans (belowK_b (w := w) (Nat.le_refl _) _ D _ _ (by omega) hK rfl rfl)⟩
    rw [results_c2 rfl]
    go_simp
theorem newest_any (L : List Vs) (w : World) (a : Option Addr) (n cap : Nat) (hn : L.length = n) (hS : Ls w a cap L) (hL : L.length ≤ 1954687338300) :
    Calls Tryz.prog 77 #[.slice a n cap] w fun e w' => ((L = [] ∧ e = .returned (.tuple #[vv [] 0 false [] none 0 0, .bool false])) ∨ ∃ x : Xv, lastV L = some x.v ∧ Sl w x.a x.c x.v.l ∧ e = .returned (.tuple #[x.val, .bool true])) ∧ Below w.heap.size w w' :=
  (callsIn_wide (n := 5)).1 (newest_in L w a n cap hn hS hL)
end Go.Proofs.YtgcdnanfnbdjjaaGreat
