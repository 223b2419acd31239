/- Layer 22: lists of one's own as lists handed on. -/
import Derived.Test.YtgbkloihclbimaaDoorYa
import Derived.Test.YtgbkloihclbimaaDoorYc
namespace Go.Proofs.YtgbkloihclbimaaDoor
set_option maxRecDepth 100000
set_option linter.unusedVariables false
set_option linter.unusedSimpArgs false
open Go.RowKit
theorem sl_own {w : World} {B mc : Nat} {ma : Option Addr} {l : List En} (hB : B ≤ w.heap.size) (h : w.ownsRow B 38 2 (.slice ma l.length mc) l.length (pcells l)) : Sl w ma mc l := by
  obtain ⟨a, cap, e, hs⟩ := Ow.sl (⟨h, hB⟩ : Ow B w _ l)
  injection e with e1 e2 e3
  subst e1 e3
  exact hs
theorem si_own {w : World} {B kc : Nat} {ka : Option Addr} {l : List Int} (h : w.ownsRow B 3 1 (.slice ka l.length kc) l.length (ivs l)) : Si w ka kc l := by
  rcases h.2 with ⟨e, h0⟩ | ⟨g, cap, cur, e, _, _, h1, h2, _⟩
  · injection e with e1 e2 e3
    subst e1 e3
    have : l = [] := List.eq_nil_of_length_eq_zero h0
    subst this
    exact ⟨fun k n hk => by simp at hk, Nat.le_refl _, fun _ => rfl⟩
  · injection e with e1 e2 e3
    subst e1 e3
    refine ⟨fun k n hk => ?_, h1, fun q => by cases q⟩
    obtain ⟨hkl, _⟩ := List.getElem?_eq_some_iff.1 hk
    refine ⟨g, 0, rfl, (h.lt g rfl).2, ?_⟩
    rw [Nat.zero_add, h.cellAt _ (by omega)]
    unfold ivs
    rw [List.getElem?_map, hk]; rfl
theorem rcl_get : ∀ (R : List Cr) (k : Nat) (r : Cr), R[k]? = some r → ∀ j v, (ccl r)[j]? = some v → (rcl R)[k * 12 + j]? = some v
  | [], k, r, h, _, _, _ => by simp at h
  | x :: R, 0, r, h, j, v, hv => by
    simp at h
    subst h
    have hj := (List.getElem?_eq_some_iff.1 hv).1
    unfold rcl
    rw [List.flatMap_cons, Nat.zero_mul, Nat.zero_add, List.getElem?_append_left hj]; exact hv
  | x :: R, k + 1, r, h, j, v, hv => by
    have ih := rcl_get R k r (by simpa using h) j v hv
    unfold rcl at *
    rw [List.flatMap_cons, List.getElem?_append_right (by rw [ccl_len]; omega), ccl_len, show (k + 1) * 12 + j - 12 = k * 12 + j by omega]; exact ih
theorem range_own {w : World} {B cap : Nat} {t : TypeId} {va : Option Addr} {R : List Cr} (h : w.ownsRow B t 12 (.slice va R.length cap) R.length (rcl R)) {k : Nat} {r : Cr} (hk : R[k]? = some r) : ∃ b off, va = some ⟨b, off, none⟩ ∧ b < w.heap.size ∧ w.rangeAt b (off + k * 12) (ccl r) := by
  have hl := (List.getElem?_eq_some_iff.1 hk).1
  rcases h.2 with ⟨e, h0⟩ | ⟨g, cap, cur, e, _⟩
  · omega
  · injection e with e1 e2 e3
    subst e1
    refine ⟨g, 0, rfl, (h.lt g rfl).2, fun j v hv => ?_⟩
    have hj := (List.getElem?_eq_some_iff.1 hv).1
    rw [ccl_len] at hj
    rw [Nat.zero_add, h.cellAt _ (by omega)]
    exact rcl_get R k r hk j v hv
theorem CT.ofFc {base : Nat} {w : World} {va : Option Addr} {vc : Nat} {R : List Cr} (h : Fc base w (.slice va R.length vc) R) : CT w va R := fun k r hk => by
  obtain ⟨b, off, e, hlt, hr⟩ := range_own h.own hk
  have hm := List.mem_of_getElem? hk
  exact ⟨b, off, e, hlt, hr, sl_own h.le (h.ow r hm), si_own (h.oi r hm)⟩
theorem CT.ofFq {base : Nat} {w : World} {va : Option Addr} {vc : Nat} {R : List Cr} (h : Fq base w (.slice va R.length vc) R) : CT w va R := fun k r hk => by
  obtain ⟨b, off, e, hlt, hr⟩ := range_own h.own hk
  have hm := List.mem_of_getElem? hk
  exact ⟨b, off, e, hlt, hr, sl_own h.le (h.ow r hm), si_own (h.oi r hm)⟩
/-- a row of numbers, of pairs, commands, in a block of their own -/
theorem si_blk {w : World} {b : Nat} {l : List Int} {cs : Array Value} {t : TypeId} {f : Nat × Nat} (h : w.heap[b]? = some (.cells cs t f)) (hc : cs.toList = ivs l) : Si w (some ⟨b, 0, none⟩) l.length l := by
  refine ⟨fun k n hk => ⟨b, 0, rfl, lt_of_block h, ?_⟩, Nat.le_refl _, fun q => by cases q⟩
  rw [Nat.zero_add, cell_of_row _ _ _ _ _ _ h, ← Array.getElem?_toList, hc]
  unfold ivs
  rw [List.getElem?_map, hk]; rfl
theorem si_nil (w : World) : Si w none 0 [] := ⟨fun k n hk => by simp at hk, Nat.le_refl _, fun _ => rfl⟩
theorem sl_nil (w : World) : Sl w none 0 [] := ⟨⟨fun k p hk => by simp at hk⟩, Nat.le_refl _, by omega, fun _ => rfl⟩
theorem sl_blk {w : World} {b : Nat} {l : List En} {cs : Array Value} {t : TypeId} {f : Nat × Nat} (h : w.heap[b]? = some (.cells cs t f)) (hc : cs.toList = pcells l) (hn : l.length ≤ 1000000) : Sl w (some ⟨b, 0, none⟩) l.length l := by
  refine ⟨⟨fun k p hk => ?_⟩, Nat.le_refl _, by omega, fun q => by cases q⟩
  obtain ⟨c0, c1⟩ := pcells_get hk
  refine ⟨b, 0, rfl, lt_of_block h, ?_, ?_⟩
  · rw [Nat.zero_add, cell_of_row _ _ _ _ _ _ h, ← Array.getElem?_toList, hc, c0]
  · rw [Nat.zero_add, cell_of_row _ _ _ _ _ _ h, ← Array.getElem?_toList, hc, c1]
theorem ct_blk {w : World} {b : Nat} {L : List Cr} {cs : Array Value} {t : TypeId} {f : Nat × Nat} (h : w.heap[b]? = some (.cells cs t f)) (hc : cs.toList = rcl L) (hs : ∀ r ∈ L, Sl w r.ma r.mc r.c.st.mt ∧ Si w r.ka r.kc r.c.st.kept) : CT w (some ⟨b, 0, none⟩) L := fun k r hk => by
  refine ⟨b, 0, rfl, lt_of_block h, fun j v hv => ?_, hs r (List.mem_of_getElem? hk)⟩
  rw [Nat.zero_add, cell_of_row _ _ _ _ _ _ h, ← Array.getElem?_toList, hc]
  exact rcl_get L k r hk j v hv
theorem cl_blk {w : World} {b : Nat} {R : List Cr} {cs : Array Value} {t : TypeId} {f : Nat × Nat} (h : w.heap[b]? = some (.cells cs t f)) (hc : cs.toList = rcl R) (hs : ∀ r ∈ R, OkT r.c ∧ CB w w.heap.size r.c r.ma r.ka) : CL w w.heap.size (some ⟨b, 0, none⟩) (R.map (·.c)) := fun k c hk => by
  rw [List.getElem?_map] at hk
  cases hq : R[k]? with
  | none => rw [hq] at hk; cases hk
  | some r =>
    rw [hq] at hk
    injection hk with hk
    subst hk
    obtain ⟨h1, h2⟩ := hs r (List.mem_of_getElem? hq)
    refine ⟨h1, b, 0, r.ma, r.mc, r.ka, r.kc, rfl, lt_of_block h, fun j v hv => ?_, h2⟩
    rw [Nat.zero_add, cell_of_row _ _ _ _ _ _ h, ← Array.getElem?_toList, hc]
    exact rcl_get R k r hq j v hv
end Go.Proofs.YtgbkloihclbimaaDoor
