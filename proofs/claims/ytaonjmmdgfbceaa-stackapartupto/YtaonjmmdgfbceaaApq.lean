/- A pair behind a version's pairs, within a region that draws its order. -/
import Derived.Test.YtaonjmmdgfbceaaApo
namespace Go.Proofs.Ytaonjmmdgfbceaa
set_option linter.unusedVariables false
set_option linter.unusedSimpArgs false
open Go.RowKit
theorem runMeta {W w1 : World} {B g : Nat} {v : Value} {l : List En} (ty : TypeId) (p : En) (hW : W.heap = (w1.alloc (.cells #[str p.key, str p.val] 50)).heap) (hO : Ow B w1 v l) (hg : g = w1.heap.size) (hn : l.length ≤ 4000000000000) :
    ∃ g' c' w', (Builtin.append_ #[31, 31] ty #[v, .slice (some ⟨g, 0, none⟩) 1 1]).run Try.prog W = .ok (.slice (some ⟨g', 0, none⟩) (l.length + 1) c') w' ∧ Ow B w' (.slice (some ⟨g', 0, none⟩) (l.length + 1) c') (l ++ [p]) ∧ Below B W w' ∧ (∀ x, x < W.heap.size → v.ownBlock ≠ some x → w'.heap[x]? = W.heap[x]?) ∧ (v.ownBlock = some g' ∨ W.heap.size ≤ g') := by
  subst hg
  obtain ⟨i0, hi0, hz0, hz1, hz2⟩ := infoP
  have hm : maxLen = 9223372036854775807 := rfl
  have hWs : W.heap.size = w1.heap.size + 1 := by rw [hW]; simp
  have hWn : W.heap[w1.heap.size]? = some (.cells #[str p.key, str p.val] 50 (0, 0)) := by rw [hW]; exact heap_alloc_new _ _
  have o1 : W.ownsRow B 50 2 v l.length (pcells l) := own_same hO.own (fun k hk => by rw [hW]; exact heap_alloc_old _ _ (hO.own.lt k hk).2)
  have hle := hO.le
  obtain ⟨g2, cap2, w', hr, hown, hgrow, hat, hlt⟩ := run_append_lies (P := Try.prog) (w := W) 31 ty B 50 i0 _ 2 32 Try.underlying31 hi0 hz0 hz1 hz2 rfl (by omega) v l.length (pcells l) o1 ⟨w1.heap.size, 0, none⟩ 1 1 (pcs p) rfl
    (World.news_of_block (cs := #[str p.key, str p.val]) (t := 50) (fr := (0, 0)) hWn) (by simp [pcs, Value.oneCell']) (by omega) (by rw [hm]; omega) (by omega) (by omega) _ rfl
  refine ⟨g2, cap2, w', hr, ⟨?_, by have := hgrow.size; omega⟩, grown_below o1 (by omega) hgrow, fun x hx hne => hgrow.block x hx (Ne.symm hne), hat.imp id (fun q => Nat.le_of_eq q.symm)⟩
  rw [pcells_append, List.length_append]
  have : pcells [p] = pcs p := by simp [pcells]
  rw [this]; exact hown
/-- the whole step -/
theorem L2.morePair {B : Nat} {w0 w : World} {ab : Nat} {mm : Nat → Nat} {i k : Nat} (h : L2 B w0 w ab mm i 16 k) (hi : i < 5) (hk : k < mm i) :
    ∃ g c ma mn mc, w.cell? ⟨ab, i, none⟩ = some (.slice (some ⟨g, 0, none⟩) (mm i + 16) c) ∧ w.cell? ⟨g, k * 5 + 4, none⟩ = some (.slice ma mn mc) ∧ g < w.heap.size ∧ ab < w.heap.size ∧
      ∀ (ty : TypeId) (w1 W : World), Below w.heap.size w w1 → W.heap = (w1.alloc (.cells #[str (gp i).key, str (gp i).val] 50)).heap → Below w.heap.size w W → ∃ g' c' w', (Builtin.append_ #[31, 31] ty #[.slice ma mn mc, .slice (some ⟨w1.heap.size, 0, none⟩) 1 1]).run Try.prog W = .ok (.slice (some ⟨g', 0, none⟩) (mn + 1) c') w' ∧
        w'.cell? ⟨ab, i, none⟩ = some (.slice (some ⟨g, 0, none⟩) (mm i + 16) c) ∧ (∃ u, w'.cell? ⟨g, k * 5 + 4, none⟩ = some u) ∧ w'.frozen? ⟨g, k * 5 + 4, none⟩ = false ∧ L2 B w0 (w'.setCell ⟨g, k * 5 + 4, none⟩ (.slice (some ⟨g', 0, none⟩) (mn + 1) c')) ab mm i 16 (k + 1) := by
  obtain ⟨g, c, ma, mn, mc, l, c1, c2, hg, hab, hl1, hl2, ho, hn1, hn2, hf, hst⟩ := h.pair hi hk
  refine ⟨g, c, ma, mn, mc, c1, c2, hg, hab, fun ty w1 W hb1 hW hbW => ?_⟩
  obtain ⟨g', c', w', hr, ow', bl, fr, ha⟩ := runMeta (W := W) (w1 := w1) ty (gp i) hW (ho.later hb1) rfl (by omega)
  rw [hl2] at hr
  have hgW : g < W.heap.size := Nat.lt_of_lt_of_le hg hbW.size
  have hbk : w'.heap[g]? = w.heap[g]? := by rw [fr g hgW hn1, hbW.block g hg]
  have hbk2 : w'.heap[ab]? = w.heap[ab]? := by rw [fr ab (Nat.lt_of_lt_of_le hab hbW.size) hn2, hbW.block ab hab]
  refine ⟨g', c', w', hr, ?_, ⟨.slice ma mn mc, ?_⟩, ?_, ?_⟩
  · unfold World.cell? at c1 ⊢
    simp only at c1 ⊢
    rw [hbk2]; exact c1
  · unfold World.cell? at c2 ⊢
    simp only at c2 ⊢
    rw [hbk]; exact c2
  · unfold World.frozen? at hf ⊢
    simp only at hf ⊢
    rw [hbk]; exact hf
  · have := hst W g' c' w' hbW ow' bl fr ha
    rw [hl2] at this
    exact this
end Go.Proofs.Ytaonjmmdgfbceaa
