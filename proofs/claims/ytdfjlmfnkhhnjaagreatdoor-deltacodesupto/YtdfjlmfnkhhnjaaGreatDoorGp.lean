import Derived.Test.YtdfjlmfnkhhnjaaGreatDoorGu
import Derived.Test.YtdfjlmfnkhhnjaaGreatDoorGt
/- doc: the program's manifest as the document's. -/
namespace Go.Proofs.YtdfjlmfnkhhnjaaGreatDoor
set_option maxRecDepth 100000
set_option linter.unusedVariables false
set_option linter.unusedSimpArgs false
open Go.RowKit
open Go.Proofs.YtdfjlmfnkhhnjaaGreatDoorH (hv hv_length hv_one hv_eq)
theorem infoQf : (Tryz.prog.info? 81).map (fun i => (i.zero, i.size, i.bytes)) = some (some (.agg zI), 37, 96) := by kernel_rfl
noncomputable def bdQ (v : Array (Nat × Value)) : Sem Value := Instr.build 81 v
theorem bdQe (v : Array (Nat × Value)) : Instr.build 81 v = bdQ v := rfl
theorem lay_fiveQ (k : List UInt8) (s : Int) (m : Bool) (z : Int) (a : Option Addr) (n c : Nat) (f : Nat → UInt8) : Tryz.prog.built 81 [(0, str k), (1, .int .i64 s), (2, .bool m), (3, .int .i64 z), (4, .slice a n c), (5, .agg (hv f).toArray)] = some (([str k, .int .i64 s, .bool m, .int .i64 z, .slice a n c] ++ hv f).toArray) := by
  rw [hv_eq]
  kernel_rfl
theorem run_bdQ (x : It) (a : Option Addr) (c : Nat) (w : World) : (bdQ #[(0, str x.key), (1, .int .i64 x.seq), (2, .bool x.mkr), (3, .int .i64 x.size), (4, .slice a x.l.length c), (5, .agg (hv x.g).toArray)]).run Tryz.prog w = .ok (.agg (ic x a c).toArray) w := by
  unfold bdQ ic
  exact run_build w 81 _ _ (lay_fiveQ _ _ _ _ _ _ _ _)
theorem run_box37Q (w : World) (x : It) (a : Option Addr) (c : Nat) : (Instr.buildSlice 36 1 #[(0, .agg (ic x a c).toArray)]).run Tryz.prog w = .ok (.slice (some ⟨w.heap.size, 0, none⟩) 1 1) (w.alloc (.cells (ic x a c).toArray 81)) := by
  obtain ⟨i, e1, e2, e3, e4⟩ := info_parts infoQf
  refine run_buildSlice w 36 81 1 _ _ i _ Tryz.underlying36 e1 e2 (by rw [e3]; decide) (by rw [e3]; decide) ?_
  have hc : (Value.cells (.agg (ic x a c).toArray)) = (ic x a c).toArray := rfl
  have hs : (Value.cells (.agg (ic x a c).toArray)).size = 37 := by rw [hc, List.size_toArray, ic_length]
  show Instr.fill _ _ [(0, .agg (ic x a c).toArray)] = _
  unfold Instr.fill
  simp only [Nat.zero_mul, hs, e3]
  rw [if_neg (by simp)]
  unfold Instr.fill
  rw [hc]
  congr 1
  rw [← Array.foldl_toList, Array.toList_zipIdx]
  rw [fold_lay, lay_all _ _ (by simp [ic_length])]
noncomputable def bsQ (l : Nat) (v : Array (Nat × Value)) : Sem Value := Instr.buildSlice 36 l v
theorem bsQe (l : Nat) (v : Array (Nat × Value)) : Instr.buildSlice 36 l v = bsQ l v := rfl
theorem run_bsQ (x : It) (a : Option Addr) (c : Nat) (w : World) : (bsQ 1 #[(0, .agg (ic x a c).toArray)]).run Tryz.prog w = .ok (.slice (some ⟨w.heap.size, 0, none⟩) 1 1) (w.alloc (.cells (ic x a c).toArray 81)) := run_box37Q w x a c
theorem Bn3.oth {w w' : World} {g : Nat} {s n : Int} {v : Value} (h : Bn3 w g s n v) (he : w'.heap[g]? = w.heap[g]?) : Bn3 w' g s n v := by unfold Bn3; rw [he]; exact h
theorem Bn3.fz {w : World} {g : Nat} {s n : Int} {v : Value} (h : Bn3 w g s n v) (j : Nat) : w.frozen? ⟨g, j, none⟩ = false := frozen_of_row _ _ _ _ _ h
theorem Bn3.set3 {W : World} {r : Nat} {s n : Int} {v : Value} (h : Bn3 W r s n v) (s' n' : Int) (v' : Value) : Bn3 (((W.setCell ⟨r, 0, none⟩ (.int .i64 s')).setCell ⟨r, 1, none⟩ (.int .i64 n')).setCell ⟨r, 2, none⟩ v') r s' n' v' := by
  have e1 : Bn3 (W.setCell ⟨r, 0, none⟩ (.int .i64 s')) r s' n v := by unfold Bn3; rw [heap_setCell_same _ _ _ _ _ _ h]; rfl
  have e2 : Bn3 ((W.setCell ⟨r, 0, none⟩ (.int .i64 s')).setCell ⟨r, 1, none⟩ (.int .i64 n')) r s' n' v := by unfold Bn3; rw [heap_setCell_same _ _ _ _ _ _ e1]; rfl
  unfold Bn3; rw [heap_setCell_same _ _ _ _ _ _ e2]; rfl
end Go.Proofs.YtdfjlmfnkhhnjaaGreatDoor
/- doc: the walk. -/
namespace Go.Proofs.YtdfjlmfnkhhnjaaGreatDoor
set_option maxRecDepth 100000
set_option linter.unusedVariables false
set_option linter.unusedSimpArgs false
open Go.RowKit
open Go.Proofs.YtdfjlmfnkhhnjaaGreatDoorH (hv hv_length hv_one hv_eq)
attribute [local go_sem ↓] Go.wp_at_zero Go.wp_at_succ bsQe bdQe ldHe ldIe stIe
attribute [local go_sem] run_bsQ
end Go.Proofs.YtdfjlmfnkhhnjaaGreatDoor
