/- Layer 22: isLong. -/
import Derived.Test.YtgbkloihclbimaaDoorWm
namespace Go.Proofs.YtgbkloihclbimaaDoor
set_option maxRecDepth 100000
set_option linter.unusedVariables false
set_option linter.unusedSimpArgs false
open Go.RowKit Go.Shelf
attribute [local go_sem] Oper.semAt_some
theorem one_cell {w : World} {g : Nat} {v : Value} {t : TypeId} (h : w.heap[g]? = some (.cells #[v] t (0, 0))) : w.cell? ⟨g, 0, none⟩ = some v ∧ w.frozen? ⟨g, 0, none⟩ = false := ⟨by rw [cell_of_row _ _ _ _ _ _ h]; rfl, frozen_of_row _ _ _ _ _ h⟩
theorem one_set {w : World} {g : Nat} {v : Value} {t : TypeId} (h : w.heap[g]? = some (.cells #[v] t (0, 0))) (u : Value) : (w.setCell ⟨g, 0, none⟩ u).heap[g]? = some (.cells #[u] t (0, 0)) := by rw [heap_setCell_same _ _ _ _ _ _ h]; rfl
/-- behind k lines: how many were counted, none too long -/
structure LJ (t : By) (w : World) (k : Nat) (W : World) (X : Bs) : Prop where
  bel : Below w.heap.size w W
  c0 : W.heap[w.heap.size]? = some (.cells #[.bool false] 4 (0, 0))
  c1 : W.heap[w.heap.size + 1]? = some (.cells #[.int .i64 (k : Int)] 3 (0, 0))
  x : ∀ b, X b → w.heap.size + 1 < b ∧ b < W.heap.size
  ok : ∀ j l, j < k → (lnsE t)[j]? = some l → (wo l).length ≤ 8192
/-- a line was too long -/
structure LX (t : By) (w : World) (k : Nat) (W : World) (X : Bs) : Prop where
  bel : Below w.heap.size w W
  c0 : W.heap[w.heap.size]? = some (.cells #[.bool true] 4 (0, 0))
  x : ∀ b, X b → w.heap.size + 1 < b ∧ b < W.heap.size
  bad : ∃ l ∈ lnsE t, 8192 < (wo l).length
  sz : w.heap.size + 1 < W.heap.size
theorem oth_bel {X : Bs} {w W W' : World} (h : Below w.heap.size w W) (ho : Oth X W W') (hx : ∀ b, X b → w.heap.size ≤ b) : Below w.heap.size w W' := ho.bel h hx
theorem LJ.abid (t : By) (w : World) : Abid (LJ t w) := by
  intro k W X W' X' h ho hx
  refine ⟨ho.bel h.bel (fun b q => by have := h.x b q; omega), (ho.block _ (lt_of_block h.c0) (fun q => by have := h.x _ q; omega)).trans h.c0, (ho.block _ (lt_of_block h.c1) (fun q => by have := h.x _ q; omega)).trans h.c1, fun b hb => ?_, h.ok⟩
  have hl := lt_of_block h.c1
  rcases hx b hb with q | q
  · have := h.x b q; have := ho.size; omega
  · omega
theorem LX.abid (t : By) (w : World) : Abid (LX t w) := by
  intro k W X W' X' h ho hx
  refine ⟨ho.bel h.bel (fun b q => by have := h.x b q; omega), (ho.block _ (lt_of_block h.c0) (fun q => by have := h.x _ q; omega)).trans h.c0, fun b hb => ?_, h.bad, Nat.lt_of_lt_of_le h.sz ho.size⟩
  have hl := h.sz
  rcases hx b hb with q | q
  · have := h.x b q; have := ho.size; omega
  · omega
theorem any_long {t : By} (h : ∃ l ∈ lnsE t, 8192 < (wo l).length) : isLongF t = true := by
  unfold isLongF
  rw [lnl_eq]
  obtain ⟨l, hl, hh⟩ := h
  have : ((lnsE t).map wo).any (fun l => decide (8192 < l.length)) = true := List.any_eq_true.2 ⟨wo l, List.mem_map_of_mem hl, decide_eq_true hh⟩
  rw [this]
  simp
theorem not_long {t : By} (h1 : t.length ≤ 65536) (h : ∀ j l, j < (lnsE t).length → (lnsE t)[j]? = some l → (wo l).length ≤ 8192) : isLongF t = decide (1024 < (lnsE t).length) := by
  unfold isLongF
  rw [lnl_eq]
  have : ((lnsE t).map wo).any (fun l => decide (8192 < l.length)) = false := by
    rw [List.any_eq_false]
    intro x hx
    obtain ⟨l, hl, rfl⟩ := List.mem_map.1 hx
    obtain ⟨j, hj, e⟩ := List.getElem_of_mem hl
    have := h j l hj (by rw [List.getElem?_eq_getElem hj, e])
    simp; omega
  rw [this, List.length_map, decide_eq_false (by omega : ¬ 65536 < t.length)]
  simp
theorem lns_le : ∀ (n : Nat) (s : By), s.length ≤ n → (lnsE s).length ≤ s.length ∧ ∀ l ∈ lnsE s, l.length ≤ s.length
  | n, [], _ => ⟨Nat.le_refl _, fun l h => by rw [lns_nil] at h; cases h⟩
  | 0, c :: s, h => by simp at h
  | n + 1, c :: s, h => by
    rcases ixb (c :: s) with ⟨h2, h3⟩ | ⟨a, t, h2, h3, h4⟩
    · rw [lns_last (by simp) h2]
      exact ⟨by simp, fun l hl => by rw [List.mem_singleton.1 hl]; exact Nat.le_refl _⟩
    · have hl := congrArg List.length h2
      rw [h2] at h4 ⊢
      rw [lns_more h4]
      have ih := lns_le n t (by rw [List.length_append, List.length_cons] at hl; simp at h hl; omega)
      refine ⟨by simp; omega, fun l q => ?_⟩
      rcases List.mem_cons.1 q with e | e
      · rw [e]; simp
      · have := ih.2 l e; simp; omega
theorem results_cell1 {fn : Func} {p : Tmp} {ty : TypeId} (h : fn.results = #[.cell p ty]) (tmps : Array Value) (P : Program) (w : World) :
    (results fn tmps).run P w = ((asAddr (tmps.getD p undef)).run P w).andThen fun a w₁ => (loadVar ty a).run P w₁ := by
  simp only [results, h]
  simp [Sem.run_bind, Result.andThen]
set_option maxHeartbeats 2000000 in
theorem isLong_in (t : By) (ht : t.length ≤ 4611686018427387904) (w : World) :
    CallsIn Fence.wide 5 Tryd.prog 18 #[str t] w fun e w' => e = .returned (.bool (isLongF t)) ∧ Below w.heap.size w w' := by
  have b1 := (Below.refl w.heap.size w).alloc (Nat.le_refl _) (.cells #[.bool false] 4)
  have x1 : (w.alloc (.cells #[.bool false] 4)).heap[w.heap.size]? = some (.cells #[.bool false] 4 (0, 0)) := heap_alloc_new _ _
  refine callsIn_of_wp_marks Tryd.func18 rfl trivial ?_ rfl
  simp only [Tryd.ntmps18, List.size_toArray, List.length_cons, List.length_nil, Nat.reduceAdd, Nat.reduceSub, Array.replicate_succ, Array.replicate_zero, List.push_toArray, List.append_toArray, List.nil_append, List.cons_append]
  by_cases hl : 65536 < t.length
  · have d1 : decide (65536 < (t.length : Int)) = true := decide_eq_true (by omega)
    have HV : Hid (isLongF t = true) := ⟨by unfold isLongF; rw [decide_eq_true hl]; simp⟩
    gi_wp2
    have g1 : (w.alloc (.cells #[.bool true] 4)).cell? ⟨w.heap.size, 0, none⟩ = some (.bool true) := (one_cell (heap_alloc_new w _)).1
    refine ⟨.bool true, ?_, by rw [HV.out], (Below.refl w.heap.size w).alloc (Nat.le_refl _) _⟩
    rw [results_cell1 rfl]
    go_simp
  · have d1 : decide (65536 < (t.length : Int)) = false := decide_eq_false (by omega)
    have HT := Hid.mk (Nat.le_of_not_lt hl)
    clear hl
    gi_wp2
    obtain ⟨w2, hw2⟩ : ∃ w2, (w.alloc (.cells #[.bool false] 4)).alloc (.cells #[.int .i64 0] 3) = w2 := ⟨_, rfl⟩
    have b2 : Below w.heap.size w w2 := by rw [← hw2]; exact b1.alloc b1.size _
    have y0 : w2.heap[w.heap.size]? = some (.cells #[.bool false] 4 (0, 0)) := by rw [← hw2, heap_alloc_old _ _ _ (by simp)]; exact x1
    have y1 : w2.heap[w.heap.size + 1]? = some (.cells #[.int .i64 0] 3 (0, 0)) := by
      have := heap_alloc_new (w.alloc (.cells #[.bool false] 4)) (.cells #[.int .i64 0] 3)
      rw [World.size_alloc] at this; rw [← hw2]; exact this
    have hs2 : Hid (w2.heap.size = w.heap.size + 2) := ⟨by rw [← hw2]; simp⟩
    rw [hw2]
    clear hw2 b1 x1
    refine ⟨trivial, (callsIn_wide.2 (lines_any t w2)).mono ?_⟩
    rintro e w3 ⟨rfl, rfl⟩
    gi_wp2
    replace hs2 := hs2.out
    have b3 := (Below.refl w2.heap.size w2).alloc (Nat.le_refl _) (.cells #[str t] 9)
    have h0 : LJ t w 0 (w2.alloc (.cells #[str t] 9)) (fun b => b = w2.heap.size) := ⟨below_seq b2 b3, by rw [b3.block _ (by omega)]; exact y0, by rw [b3.block _ (by omega)]; exact y1, fun b e => by rw [e]; simp; omega, fun j l hj => by omega⟩
    have hlw := lns_le _ t (Nat.le_refl _)
    have hen := enters_of (P := Tryd.prog) Tryd.func33 (by kernel_rfl) rfl
    have htel := lines1_tells t w2.heap.size (by have := HT.out; omega)
    have hnew := heap_alloc_new w2 (.cells #[str t] 9)
    have hsz3 : (w2.alloc (.cells #[str t] 9)).heap.size = w2.heap.size + 1 := by simp
    have hX0 : ∀ b, (fun b => b = w2.heap.size) b → b < (w2.alloc (.cells #[str t] 9)).heap.size := fun b e => by rw [show b = w2.heap.size from e, hsz3]; omega
    have hS0 : ∀ W', Below (w2.alloc (.cells #[str t] 9)).heap.size (w2.alloc (.cells #[str t] 9)) W' → (fun W : World => W.heap[w2.heap.size]? = some (.cells #[str t] 9 (0, 0))) W' := fun W' hb => (hb.block _ (by rw [hsz3]; omega)).trans hnew
    replace hs2 := Hid.mk hs2
    refine wp_tellsS rfl hen htel rfl hX0 hS0 (LJ t w) (LX t w) (LJ.abid t w) (LX.abid t w) h0 (fun p => { tmps := #[str t, undef, .pointer (some ⟨w.heap.size, 0, none⟩), .pointer (some ⟨w.heap.size + 1, 0, none⟩), str p, str t, .int .i64 (t.length : Int), .bool false, str t, .func (.func 33) #[] #[.pointer (some ⟨w2.heap.size, 0, none⟩)], str p, undef, undef, undef, undef, undef, undef, undef, undef], defers := [] }) ?assign ?body ?done ?stop
    case assign =>
      intro l1 p W3 K3 hK3
      gi_wp2
      exact hK3
    case body =>
      rintro l1 k p W X hp hJ
      have hmem := List.mem_of_getElem? hp
      have hpl := hlw.2 p hmem
      have hk := (List.getElem?_eq_some_iff.1 hp).1
      have hwe := withoutEnd_any p (by have := HT.out; omega) W
      have q0 := one_cell hJ.c0
      have q1 := one_cell hJ.c1
      obtain ⟨q0, qf0⟩ := q0
      obtain ⟨q1, qf1⟩ := q1
      have hsz := lt_of_block hJ.c1
      by_cases hlong : 8192 < (wo p).length
      · have d2 : decide (8192 < ((wo p).length : Int)) = true := decide_eq_true (by omega)
        have HX : Hid (LX t w k (W.setCell ⟨w.heap.size, 0, none⟩ (.bool true)) X ∧ Stay X W (W.setCell ⟨w.heap.size, 0, none⟩ (.bool true))) := ⟨⟨hJ.bel.setCell (p := ⟨w.heap.size, 0, none⟩) (Nat.le_refl _) _, one_set hJ.c0 _, fun b hb => by have := hJ.x b hb; simpa using this, ⟨p, hmem, hlong⟩, by simpa using hsz⟩, fun b hb _ => hso W ⟨w.heap.size, 0, none⟩ (fun (e : b = w.heap.size) => by have := hJ.x b hb; omega)⟩
        clear hJ hlong
        generalize wo p = z at *
        gi_wp2
        refine ⟨trivial, (CallsIn.inRound l1 (callsIn_wide.2 hwe)).mono ?_⟩
        rintro e W ⟨rfl, rfl⟩
        gi_wp2
        exact HX.out
      · have d2 : decide (8192 < ((wo p).length : Int)) = false := decide_eq_false (by omega)
        have hwk : wrap64 ((k : Int) + 1) = ((k + 1 : Nat) : Int) := by have := HT.out; unfold wrap64; omega
        have HX : Hid (LJ t w (k + 1) (W.setCell ⟨w.heap.size + 1, 0, none⟩ (.int .i64 ((k + 1 : Nat) : Int))) X ∧ Stay X W (W.setCell ⟨w.heap.size + 1, 0, none⟩ (.int .i64 ((k + 1 : Nat) : Int)))) := ⟨⟨hJ.bel.setCell (p := ⟨w.heap.size + 1, 0, none⟩) (Nat.le_succ _) _, by rw [hso W ⟨w.heap.size + 1, 0, none⟩ (k := w.heap.size) (show w.heap.size ≠ w.heap.size + 1 by omega)]; exact hJ.c0, one_set hJ.c1 _, fun b hb => by have := hJ.x b hb; simpa using this, fun j l hj hjl => by
          by_cases e : j = k
          · rw [e, hp] at hjl
            injection hjl with hjl
            rw [← hjl]; omega
          · exact hJ.ok j l (by omega) hjl⟩, fun b hb _ => hso W ⟨w.heap.size + 1, 0, none⟩ (fun (e : b = w.heap.size + 1) => by have := hJ.x b hb; omega)⟩
        clear hJ hlong hk
        generalize wo p = z at *
        gi_wp2
        refine ⟨trivial, (CallsIn.inRound l1 (callsIn_wide.2 hwe)).mono ?_⟩
        rintro e W ⟨rfl, rfl⟩
        gi_wp2
        first | exact HX.out | (rw [hwk]; exact HX.out)
    case done =>
      intro W8 hJ8 hD8
      generalize hDe : (w2.alloc (.cells #[str t] 9)).heap.size = D at *
      have hD9 : w.heap.size + 1 < D := (hJ8.x D (.inr rfl)).1
      have HV : Hid (isLongF t = decide (1024 < (lnsE t).length)) := ⟨not_long HT.out hJ8.ok⟩
      have hnl := hlw.1
      obtain ⟨q0, qf0⟩ := one_cell hJ8.c0
      obtain ⟨q1, qf1⟩ := one_cell hJ8.c1
      have hB8 := hJ8.bel
      have n1 := one_set hJ8.c0 (.bool (decide (1024 < (lnsE t).length)))
      have hK : (W8.setCell ⟨w.heap.size, 0, none⟩ (.bool (decide (1024 < (lnsE t).length)))).heap[D]? = some (.deferred (some [])) := by
        rw [hso W8 ⟨w.heap.size, 0, none⟩ (k := D) (show D ≠ w.heap.size by omega)]; exact hD8
      have hBf := hB8.setCell (p := ⟨w.heap.size, 0, none⟩) (Nat.le_refl _) (.bool (decide (1024 < (lnsE t).length)))
      have d3 : decide (1024 < ((lnsE t).length : Int)) = decide (1024 < (lnsE t).length) := by
        by_cases q : 1024 < (lnsE t).length
        · rw [decide_eq_true q, decide_eq_true (by omega)]
        · rw [decide_eq_false q, decide_eq_false (by omega)]
      generalize decide (1024 < (lnsE t).length) = bb at *
      clear h0 hDe hJ8 hD8 hX0 hS0 htel hen hnew hsz3
      gi_wp2
      generalize W8.setCell ⟨w.heap.size, 0, none⟩ (.bool bb) = W10 at *
      refine ⟨by simp, .inl ⟨_, _, rfl, run_takeDeferred hK, ?_⟩⟩
      have g1 : (W10.putObj D (.deferred none)).cell? ⟨w.heap.size, 0, none⟩ = some (.bool bb) := (one_cell (by rw [World.putObj_heap_other (by omega)]; exact n1)).1
      refine ⟨.bool bb, ?_, by rw [HV.out], hBf.trans (belowK_b (w := w) (Nat.le_refl _) _ D _ _ (by omega) hK rfl rfl)⟩
      rw [results_cell1 rfl]
      go_simp
    case stop =>
      intro k W8 hJ8 hD8
      generalize hDe : (w2.alloc (.cells #[str t] 9)).heap.size = D at *
      have hD9 : w.heap.size + 1 < D := (hJ8.x D (.inr rfl)).1
      have HV : Hid (isLongF t = true) := ⟨any_long hJ8.bad⟩
      have n1 := hJ8.c0
      have hBf := hJ8.bel
      clear h0 hDe hJ8 hX0 hS0 htel hen hnew hsz3
      gi_wp2
      refine ⟨by simp, .inl ⟨_, _, rfl, run_takeDeferred hD8, ?_⟩⟩
      have g1 : (W8.putObj D (.deferred none)).cell? ⟨w.heap.size, 0, none⟩ = some (.bool true) := (one_cell (by rw [World.putObj_heap_other (by omega)]; exact n1)).1
      refine ⟨.bool true, ?_, by rw [HV.out], hBf.trans (belowK_b (w := w) (Nat.le_refl _) _ D _ _ (by omega) hD8 rfl rfl)⟩
      rw [results_cell1 rfl]
      go_simp
theorem isLong_any (t : By) (ht : t.length ≤ 4611686018427387904) (w : World) :
    Calls Tryd.prog 18 #[str t] w fun e w' => e = .returned (.bool (isLongF t)) ∧ Below w.heap.size w w' := (callsIn_wide (n := 5)).1 (isLong_in t ht w)
end Go.Proofs.YtgbkloihclbimaaDoor
