import Derived.Test.YtdfjlmfnkhhnjaaGreatDoorGu
import Derived.Test.YtdfjlmfnkhhnjaaGreatDoorGt
/- doc: the program's manifest as the document's. -/
namespace Go.Proofs.YtdfjlmfnkhhnjaaGreatDoor
set_option maxRecDepth 100000
set_option linter.unusedVariables false
set_option linter.unusedSimpArgs false
open Go.RowKit
open Go.Proofs.YtdfjlmfnkhhnjaaGreatDoorH (hv hv_length hv_one hv_eq)
theorem infoQf : (Tryz.prog.info? 81).map (fun i => (i.zero, i.size, i.bytes)) = some (some (.agg zI), 37, 96) := by kernel_rfl
noncomputable def bdQ (v : Array (Nat × Value)) : Sem Value := Instr.build 81 v
theorem bdQe (v : Array (Nat × Value)) : Instr.build 81 v = bdQ v := rfl
theorem run_box37Q (w : World) (x : It) (a : Option Addr) (c : Nat) : (Instr.buildSlice 36 1 #[(0, .agg (ic x a c).toArray)]).run Tryz.prog w = .ok (.slice (some ⟨w.heap.size, 0, none⟩) 1 1) (w.alloc (.cells (ic x a c).toArray 81)) := by
  obtain ⟨i, e1, e2, e3, e4⟩ := info_parts infoQf
  refine run_buildSlice w 36 81 1 _ _ i _ Tryz.underlying36 e1 e2 (by rw [e3]; decide) (by rw [e3]; decide) ?_
  have hc : (Value.cells (.agg (ic x a c).toArray)) = (ic x a c).toArray := rfl
  have hs : (Value.cells (.agg (ic x a c).toArray)).size = 37 := by rw [hc, List.size_toArray, ic_length]
  show Instr.fill _ _ [(0, .agg (ic x a c).toArray)] = _
  unfold Instr.fill
  simp only [Nat.zero_mul, hs, e3]
  rw [if_neg (by simp)]
  unfold Instr.fill
  rw [hc]
  congr 1
  rw [← Array.foldl_toList, Array.toList_zipIdx]
  rw [fold_lay, lay_all _ _ (by simp [ic_length])]
noncomputable def bsQ (l : Nat) (v : Array (Nat × Value)) : Sem Value := Instr.buildSlice 36 l v
theorem bsQe (l : Nat) (v : Array (Nat × Value)) : Instr.buildSlice 36 l v = bsQ l v := rfl
theorem run_bsQ (x : It) (a : Option Addr) (c : Nat) (w : World) : (bsQ 1 #[(0, .agg (ic x a c).toArray)]).run Tryz.prog w = .ok (.slice (some ⟨w.heap.size, 0, none⟩) 1 1) (w.alloc (.cells (ic x a c).toArray 81)) := run_box37Q w x a c
/-- what is kept while it is made -/
structure Dk (w W : World) (m : Ma) (a : Option Addr) (cap : Nat) (v : Value) (R : List Ri) : Prop where
  g0 : Bm3 W w.heap.size m.since m.next (.slice a m.items.length cap)
  g1 : Bn3 W (w.heap.size + 1) 0 0 (.slice none 0 0)
  g2 : Bn3 W (w.heap.size + 1 + 1) m.since m.next v
  own : W.ownsRow (w.heap.size + 3) 81 37 v R.length (rics R)
  le : w.heap.size + 3 ≤ W.heap.size
  met : ∀ (k : Nat) (r : Ri), R[k]? = some r → Sl w r.2.1 r.2.2 r.1.l
  bel : Below w.heap.size w W
theorem Bn3.oth {w w' : World} {g : Nat} {s n : Int} {v : Value} (h : Bn3 w g s n v) (he : w'.heap[g]? = w.heap[g]?) : Bn3 w' g s n v := by unfold Bn3; rw [he]; exact h
theorem Bn3.fz {w : World} {g : Nat} {s n : Int} {v : Value} (h : Bn3 w g s n v) (j : Nat) : w.frozen? ⟨g, j, none⟩ = false := frozen_of_row _ _ _ _ _ h
theorem Bn3.set3 {W : World} {r : Nat} {s n : Int} {v : Value} (h : Bn3 W r s n v) (s' n' : Int) (v' : Value) : Bn3 (((W.setCell ⟨r, 0, none⟩ (.int .i64 s')).setCell ⟨r, 1, none⟩ (.int .i64 n')).setCell ⟨r, 2, none⟩ v') r s' n' v' := by
  have e1 : Bn3 (W.setCell ⟨r, 0, none⟩ (.int .i64 s')) r s' n v := by unfold Bn3; rw [heap_setCell_same _ _ _ _ _ _ h]; rfl
  have e2 : Bn3 ((W.setCell ⟨r, 0, none⟩ (.int .i64 s')).setCell ⟨r, 1, none⟩ (.int .i64 n')) r s' n' v := by unfold Bn3; rw [heap_setCell_same _ _ _ _ _ _ e1]; rfl
  unfold Bn3; rw [heap_setCell_same _ _ _ _ _ _ e2]; rfl
theorem Dk.later {w W W' : World} {m : Ma} {a : Option Addr} {cap : Nat} {v : Value} {R : List Ri} (h : Dk w W m a cap v R) (hb : Below W.heap.size W W') : Dk w W' m a cap v R :=
  ⟨h.g0.later hb, h.g1.later hb, h.g2.later hb, own_later h.own hb, Nat.le_trans h.le hb.size, h.met, h.bel.trans (hb.mono h.bel.size)⟩
theorem Dk.more {w W w2 : World} {m : Ma} {a : Option Addr} {cap : Nat} {v v' : Value} {R : List Ri} (r : Ri) (h : Dk w W m a cap v R) (hs : Sl w r.2.1 r.2.2 r.1.l) (hown : w2.ownsRow (w.heap.size + 3) 81 37 v' (R.length + 1) (rics (R ++ [r]))) (hsz : W.heap.size ≤ w2.heap.size) (h2 : Below (w.heap.size + 3) W w2) :
    Dk w (w2.setCell ⟨w.heap.size + 1 + 1, 2, none⟩ v') m a cap v' (R ++ [r]) := by
  have e2 : Bn3 w2 (w.heap.size + 1 + 1) m.since m.next v := h.g2.oth (h2.block _ (by omega))
  refine ⟨h.g0.oth ((hso _ _ (by omega)).trans (h2.block _ (by omega))), h.g1.oth ((hso _ _ (by omega)).trans (h2.block _ (by omega))), by unfold Bn3; rw [heap_setCell_same _ _ _ _ _ _ e2]; rfl, ?_, by simpa using Nat.le_trans h.le hsz, ?_, (h.bel.trans (h2.mono (by omega))).setCell (p := ⟨w.heap.size + 1 + 1, 2, none⟩) (by show w.heap.size ≤ w.heap.size + 1 + 1; omega) _⟩
  · have := own_keep (w' := w2.setCell ⟨w.heap.size + 1 + 1, 2, none⟩ v') hown (fun g hg => hso _ _ (by have := (hown.lt g hg).1; omega))
    simpa using this
  · intro k q hq
    by_cases hkl : k < R.length
    · rw [List.getElem?_append_left hkl] at hq
      exact h.met k q hq
    · have hkl' : k = R.length := by
        have := (List.getElem?_eq_some_iff.1 hq).1
        simp at this; omega
      subst hkl'
      simp at hq
      subst hq
      exact hs
theorem Dk.it {w W : World} {m : Ma} {a : Option Addr} {cap : Nat} {v : Value} {R : List Ri} (h : Dk w W m a cap v R) {ra : Option Addr} {n rc : Nat} (hv : v = .slice ra n rc) : IIt W ra (R.map (·.1)) := by
  subst hv
  refine ⟨fun k x hk => ?_⟩
  rw [List.getElem?_map] at hk
  cases hq : R[k]? with
  | none => rw [hq] at hk; cases hk
  | some r =>
    rw [hq] at hk
    simp at hk
    subst hk
    have hkl := (List.getElem?_eq_some_iff.1 hq).1
    rcases h.own.2 with ⟨e, h0⟩ | ⟨g, cap', cur, e, hbg, hg, _⟩
    · omega
    · injection e with e1 e2 e3
      subst e1 e2
      refine ⟨g, 0, r.2.1, r.2.2, rfl, lt_of_block hg, fun j v hj => ?_, (h.met k r hq).later h.bel⟩
      have hj2 : j < 37 := by have := (List.getElem?_eq_some_iff.1 hj).1; rw [ic_length] at this; exact this
      have hl := rics_len R
      rw [Nat.zero_add, h.own.cellAt _ (by omega), rics_get R k r hq j hj2]
      exact hj
end Go.Proofs.YtdfjlmfnkhhnjaaGreatDoor

/- doc: the walk. -/
namespace Go.Proofs.YtdfjlmfnkhhnjaaGreatDoor
set_option maxRecDepth 100000
set_option linter.unusedVariables false
set_option linter.unusedSimpArgs false
open Go.RowKit
open Go.Proofs.YtdfjlmfnkhhnjaaGreatDoorH (hv hv_length hv_one hv_eq)
attribute [local go_sem ↓] Go.wp_at_zero Go.wp_at_succ bsQe bdQe ldHe ldIe stIe
attribute [local go_sem] run_bsQ
end Go.Proofs.YtdfjlmfnkhhnjaaGreatDoor
