/- Layer 22: rows of bytes of one's own, with what an append leaves alone. -/
import Derived.Test.YtgbkloihclbimaaDoorRow
import Derived.Test.YtgbkloihclbimaaDoorGh
import Derived.Test.YtgbkloihclbimaaDoorShelf
import Derived.Lib.OthersKept
namespace Go.Proofs.YtgbkloihclbimaaDoor
set_option maxRecDepth 100000
set_option linter.unusedVariables false
set_option linter.unusedSimpArgs false
open Go.RowKit
abbrev K5 (w w' : World) : Prop := Lib.OthersKept 5 none w w'
theorem k5_below {w w' : World} (h : Below w.heap.size w w') : K5 w w' := fun k o hk _ _ => (h.block k (Array.getElem?_eq_some_iff.1 hk).1).trans hk
theorem own_row {base n : Nat} {w : World} {v : Value} {e : TypeId} {sz : Nat} {xs : List Value} (o : w.ownsRow base e sz v n xs) : ∀ g, v.ownBlock = some g → ∃ c fz, w.heap[g]? = some (.cells c e fz) := by
  intro g hg
  rcases o.2 with ⟨rfl, _⟩ | ⟨g', cap, cur, rfl, _, hh, _⟩
  · simp [Value.ownBlock] at hg
  · simp [Value.ownBlock] at hg
    subst hg
    exact ⟨_, _, hh⟩
theorem vals_one (ps : List UInt8) : ∀ u ∈ vals ps, u.oneCell' = true := by
  intro u hu
  unfold vals at hu
  obtain ⟨q, _, rfl⟩ := List.mem_map.1 hu
  rfl
/-- bytes laid behind a row: the run -/
theorem run_bs {base : Nat} {w1 : World} {v : Value} {L : List UInt8} (ps : List UInt8) (cs : Array Value) (hcs : cs = (vals ps).toArray) (hp2 : ps.length ≤ 16) (hO : Ob base w1 v L) (hn : L.length ≤ 100000000000000) :
    ∃ v' w', (∀ ty, (Builtin.append_ #[55, 55] ty #[v, .slice (some ⟨w1.heap.size, 0, none⟩) ps.length ps.length]).run Tryd.prog (w1.alloc (.cells cs 5)) = .ok v' w') ∧ Ob base w' v' (L ++ ps) ∧ Below base w1 w' ∧ K5 w1 w' := by
  subst hcs
  obtain ⟨i0, hi0, hz0, hz1, hz2⟩ := info5
  have hm : maxLen = 9223372036854775807 := rfl
  have o1 : (w1.alloc (.cells (vals ps).toArray 5)).ownsRow base 5 1 v L.length (vals L) := hO.own.alloc _
  have hle := hO.le
  obtain ⟨v', w', hown, hgrow, hr⟩ : ∃ v' w', w'.ownsRow base 5 1 v' (L.length + ps.length) (vals L ++ vals ps) ∧ (w1.alloc (.cells (vals ps).toArray 5)).grownBy w' v.ownBlock ∧ ∀ ty, (Builtin.append_ #[55, 55] ty #[v, .slice (some ⟨w1.heap.size, 0, none⟩) ps.length ps.length]).run Tryd.prog (w1.alloc (.cells (vals ps).toArray 5)) = .ok v' w' := by
    obtain ⟨v', w', hr, hown, hgrow, _⟩ := run_append_own_wide (P := Tryd.prog) (w := w1.alloc (.cells (vals ps).toArray 5)) base 55 5 5 i0 _ 1 1 Tryd.underlying55 hi0 hz0 hz1 hz2 rfl (by omega) v L.length (vals L) o1 ⟨w1.heap.size, 0, none⟩ ps.length ps.length (vals ps) (by rw [vals_length]; omega)
      (World.news_of_block (cs := (vals ps).toArray) (t := 5) (fr := (0, 0)) (heap_alloc_new w1 _)) (vals_one ps) (by rw [hm]; omega) (by omega) (by simp; omega)
    exact ⟨v', w', hown, hgrow, fun ty => hr⟩
  refine ⟨v', w', hr, ⟨?_, ?_⟩, ((Below.refl _ _).alloc hle _).trans (grown_below o1 (by simp; omega) hgrow), ?_⟩
  · rw [vals_append, List.length_append]; exact hown
  · have := hgrow.size; simp at this; omega
  · exact ((Lib.OthersKept.refl 5 none w1).alloc _).grown hgrow (own_row o1)
/-- the same in a plain region -/
theorem app_bs {ops : Array Oper} {rest : List Oper} {o : Oper} {a : Act} {Q : Exit → Act → World → Prop} {W : World} (hgd : o.guard = none) (s x : Operand) (ho : o.op = .call { callee := .builtin .append, args := #[s, x], argTypes := #[55, 55] })
    {base : Nat} {w : World} {v : Value} {L : List UInt8} {g n : Nat} (ps : List UInt8) (cs : Array Value) (hcs : cs = (vals ps).toArray) (hp : ps.length ≤ 16) (hW : W = w.alloc (.cells cs 5)) (hO : Ob base w v L) (hg : g = w.heap.size) (hn : L.length ≤ 100000000000000) (hl : n = ps.length)
    (hs : a.eval s = v) (hx : a.eval x = .slice (some ⟨g, 0, none⟩) n n)
    (h : ∀ v' w', Ob base w' v' (L ++ ps) → Below base w w' → K5 w w' → wpList Tryd.prog ops Q rest (a.put o.dst v') w') :
    wpList Tryd.prog ops Q (o :: rest) a W := by
  subst hW hg hl
  refine wpList_plain hgd fun K hK => ?_
  obtain ⟨v', w', hr, h2, h3, h4⟩ := run_bs ps cs hcs hp hO hn
  unfold Oper.wp execOp
  simp only [ho, resolve, invoke, builtin, Sem.run_bind, Sem.run_pure, Result.andThen_ok, List.map_toArray, List.map_cons, List.map_nil, hs, hx, hr]
  exact hK _ _ (h v' w' h2 h3 h4)
/-- a text laid behind a row -/
theorem run_strk (w : World) {base : Nat} {v : Value} {L : List UInt8} (l : List UInt8) (hO : Ob base w v L) (hn : L.length + l.length ≤ 100000000000000) :
    ∃ v' w', (∀ ty, (Builtin.append_ #[55, 9] ty #[v, str l]).run Tryd.prog w = .ok v' w') ∧ Ob base w' v' (L ++ l) ∧ Below base w w' ∧ K5 w w' := by
  obtain ⟨i0, hi0, hz0, hz1, hz2⟩ := info5
  have hm : maxLen = 9223372036854775807 := rfl
  obtain ⟨v', w', hr, hown, hgrow, _⟩ := Lib.run_append_own_string (P := Tryd.prog) w base 55 9 5 5 i0 Tryd.underlying55 Tryd.underlying9 hi0 hz0 hz1 hz2 v L.length (vals L) hO.own ⟨l.toArray⟩ (by rw [str_size, hm]; omega) (by rw [str_size]; omega) hO.le
  refine ⟨v', w', fun ty => hr, ⟨?_, ?_⟩, grown_below hO.own hO.le hgrow, (Lib.OthersKept.refl 5 none w).grown hgrow (own_row hO.own)⟩
  · rw [vals_append, List.length_append, ← vals_str l]; rw [str_size] at hown; exact hown
  · have := hgrow.size; have h2 := hO.le; omega
theorem app_strk {ops : Array Oper} {rest : List Oper} {o : Oper} {a : Act} {Q : Exit → Act → World → Prop} {w : World} (hgd : o.guard = none) (s x : Operand) (ho : o.op = .call { callee := .builtin .append, args := #[s, x], argTypes := #[55, 9] })
    {base : Nat} {v : Value} {L : List UInt8} (l : List UInt8) (hO : Ob base w v L) (hn : L.length + l.length ≤ 100000000000000)
    (hs : a.eval s = v) (hx : a.eval x = str l)
    (h : ∀ v' w', Ob base w' v' (L ++ l) → Below base w w' → K5 w w' → wpList Tryd.prog ops Q rest (a.put o.dst v') w') : wpList Tryd.prog ops Q (o :: rest) a w := by
  refine wpList_plain hgd fun K hK => ?_
  obtain ⟨v', w', hr, h2, h3, h4⟩ := run_strk w l hO hn
  unfold Oper.wp execOp
  simp only [ho, resolve, invoke, builtin, Sem.run_bind, Sem.run_pure, Result.andThen_ok, List.map_toArray, List.map_cons, List.map_nil, hs, hx, hr]
  exact hK _ _ (h v' w' h2 h3 h4)
theorem step_run {ops : Array Oper} {o : Oper} {a : Act} {K : Act → World → Prop} {Q : Exit → Act → World → Prop} {E : Prop} {w w' : World} {v x' r : Value} {t1 t2 : TypeId} (hgd : o.guard = none) (s x : Operand) (ho : o.op = .call { callee := .builtin .append, args := #[s, x], argTypes := #[t1, t2] })
    (hs : a.eval s = v) (hx : a.eval x = x') (hr : (Builtin.append_ #[t1, t2] o.type #[v, x']).run Tryd.prog w = .ok r w')
    (h : K (a.put o.dst r) w') : if Region.wanted o (yielded ops a.tmps) = true then Oper.wp Tryd.prog o a w K Q else E := by
  have hw : Region.wanted o (yielded ops a.tmps) = true := by simp [Region.wanted, hgd]
  rw [if_pos hw]
  unfold Oper.wp execOp
  simp only [ho, resolve, invoke, builtin, Sem.run_bind, Sem.run_pure, Result.andThen_ok, List.map_toArray, List.map_cons, List.map_nil, hs, hx, hr]
  exact h
/-- what a function that lays bytes behind a row promises -/
structure AppP (base : Nat) (w w' : World) (v' : Value) (L : List UInt8) : Prop where
  ob : Ob base w' v' L
  bel : Below base w w'
  k5 : K5 w w'
theorem AppP.seq {base : Nat} {w w1 w2 : World} {v v' : Value} {L L' : List UInt8} (h : AppP base w w1 v L) (h2 : AppP base w1 w2 v' L') : AppP base w w2 v' L' := ⟨h2.ob, h.bel.trans h2.bel, h.k5.trans h2.k5⟩
end Go.Proofs.YtgbkloihclbimaaDoor
