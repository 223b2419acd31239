/- The document's Rows, and SameRows of the same. -/
import Derived.Test.YtcbajnajamjcnaaRws
namespace Go.Proofs.Ytcbajnajamjcnaa
set_option linter.unusedVariables false
set_option linter.unusedSimpArgs false
open Go.RowKit Go.Shelf
attribute [local go_sem ↓] Go.wp_at_zero Go.wp_at_succ
theorem wcs_one (r : Rw) : ∀ u ∈ wcs r, u.oneCell' = true := by
  intro u hu
  simp [wcs] at hu
  rcases hu with rfl | rfl | rfl | rfl <;> rfl
theorem Wo.nil (w : World) (base : Nat) (h : base ≤ w.heap.size) : Wo base w (.slice none 0 0) [] := ⟨World.ownsRow_nil _ _ _ _, h⟩
theorem Wo.base {b b' : Nat} {w : World} {v : Value} {X : List Rw} (h : Wo b w v X) (hb : b' ≤ b) : Wo b' w v X := by
  refine ⟨⟨h.own.1, ?_⟩, Nat.le_trans hb h.le⟩
  rcases h.own.2 with e | ⟨g, cap, cur, e1, e2, e3⟩
  · exact Or.inl e
  · exact Or.inr ⟨g, cap, cur, e1, Nat.le_trans hb e2, e3⟩
/-- a row behind one's own -/
theorem run_wo {W : World} {base : Nat} {w : World} {v : Value} {X : List Rw} {g : Nat} (ty : TypeId) (r : Rw) (hW : W.heap = (w.alloc (.cells (wcs r).toArray 37)).heap) (hO : Wo base w v X) (hg : g = w.heap.size) (hn : X.length ≤ 1954687338260) :
    ∃ v' w', (Builtin.append_ #[28, 28] ty #[v, .slice (some ⟨g, 0, none⟩) 1 1]).run Try.prog W = .ok v' w' ∧ Wo base w' v' (X ++ [r]) ∧ Below base W w' := by
  subst hg
  obtain ⟨i0, hi, hz0, hz1, hz2⟩ := info_parts infoWf
  have hmx : maxLen = 9223372036854775807 := rfl
  have hWs : W.heap.size = w.heap.size + 1 := by rw [hW]; simp
  have hWn : W.heap[w.heap.size]? = some (.cells (wcs r).toArray 37 (0, 0)) := by rw [hW]; exact heap_alloc_new _ _
  have hle := hO.le
  have o1 : W.ownsRow base 37 4 v X.length (wcells X) := own_same hO.own (fun k hk => by rw [hW]; exact heap_alloc_old _ _ (hO.own.lt k hk).2)
  obtain ⟨v', w', hr, hown, hgrow, _⟩ := run_append_own_wide (P := Try.prog) (w := W) base 28 ty 37 i0 _ 4 40 Try.underlying28 hi hz0 hz1 hz2 rfl (by omega) v X.length (wcells X) o1 ⟨w.heap.size, 0, none⟩ 1 1 (wcs r) rfl
    (World.news_of_block (cs := (wcs r).toArray) (t := 37) (fr := (0, 0)) hWn) (wcs_one r) (by rw [hmx]; omega) (by omega) (by omega)
  refine ⟨v', w', hr, ⟨?_, by have := hgrow.size; omega⟩, grown_below o1 (by omega) hgrow⟩
  rw [wcells_append, List.length_append]
  have : wcells [r] = wcs r := by simp [wcells]
  rw [this]; exact hown
theorem step_wo {ops : Array Oper} {o : Oper} {a : Act} {K : Act → World → Prop} {Q : Exit → Act → World → Prop} {E : Prop} {W : World} (hgd : o.guard = none) (s x : Operand) (ho : o.op = .call { callee := .builtin .append, args := #[s, x], argTypes := #[28, 28] })
    {base : Nat} {w : World} {v : Value} {X : List Rw} {g : Nat} (r : Rw) (hO : Wo base w v X) (hW : W.heap = (w.alloc (.cells (wcs r).toArray 37)).heap) (hg : g = w.heap.size) (hn : X.length ≤ 1954687338260)
    (hs : a.eval s = v) (hx : a.eval x = .slice (some ⟨g, 0, none⟩) 1 1)
    (h : ∀ v' w', Wo base w' v' (X ++ [r]) → Below base W w' → K (a.put o.dst v') w') : if Region.wanted o (yielded ops a.tmps) = true then Oper.wp Try.prog o a W K Q else E := by
  obtain ⟨v', w', hr, h1, h2⟩ := run_wo (W := W) o.type r hW hO hg hn
  exact step_run hgd s x ho hs hx hr (h v' w' h1 h2)
theorem rwsL_len (L : List Vs) : (rwsL L).length = L.length := by simp [rwsL]
theorem rwsL_get {L : List Vs} {m : Nat} {u : Vs} (h : L[m]? = some u) : (rwsL L)[L.length - (m + 1)]? = some (rwOf u) := by
  have hm := (List.getElem?_eq_some_iff.1 h).1
  unfold rwsL
  rw [List.getElem?_map, List.getElem?_reverse (by omega), show L.length - 1 - (L.length - (m + 1)) = m by omega, h]
  rfl
theorem rwsL_step {L : List Vs} {m : Nat} {u : Vs} (h : L[m]? = some u) : (rwsL L).take (L.length - m) = (rwsL L).take (L.length - (m + 1)) ++ [rwOf u] := by
  have hm := (List.getElem?_eq_some_iff.1 h).1
  rw [show L.length - m = L.length - (m + 1) + 1 by omega]
  exact takeV (rwsL_get h)
end Go.Proofs.Ytcbajnajamjcnaa
