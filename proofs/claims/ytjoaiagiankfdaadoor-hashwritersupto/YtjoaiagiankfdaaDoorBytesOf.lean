import Derived.Test.YtjoaiagiankfdaaDoorRows2
namespace Go.Proofs.YtjoaiagiankfdaaDoor
set_option linter.unusedVariables false
set_option linter.unusedSimpArgs false
open Go.RowKit
set_option maxHeartbeats 400000 in
set_option maxRecDepth 8000 in
theorem bytesOf_any (s : Sha.S8) (w : World) :
    Calls Tryd.prog 24 #[.agg (words8 s)] w fun e w' => e = .returned (.agg (b32 (Sha.outByte s))) ∧ Below w.heap.size w w' := by
  go_enter Tryd.func24, Tryd.ntmps24
  go_wp2_with fail
  rw [← pb32 (Sha.outByte s)]
  have hT : ∃ W, W = ((w.alloc (Obj.cells (words8 s) 49)).alloc (Obj.cells (pb 32 (Sha.outByte s) 0) 22)).alloc (Obj.cells (pb 32 (Sha.outByte s) 0) 22) ∧ Below w.heap.size w W ∧ W.heap[w.heap.size]? = some (.cells (words8 s) 49 (0, 0)) ∧ W.heap[w.heap.size + 1]? = some (.cells (pb 32 (Sha.outByte s) 0) 22 (0, 0)) ∧ W.heap[w.heap.size + 1 + 1]? = some (.cells (pb 32 (Sha.outByte s) 0) 22 (0, 0)) := by
    refine ⟨_, rfl, (((Below.refl _ _).alloc (Nat.le_refl _) _).alloc (by simp) _).alloc (by simp; omega) _, ?_, ?_, ?_⟩
    · rw [heap_alloc_old _ _ (by simp; omega), heap_alloc_old _ _ (by simp), heap_alloc_new]
    · rw [heap_alloc_old _ _ (by simp), heap_alloc2_new]
    · have := heap_alloc_new ((w.alloc (Obj.cells (words8 s) 49)).alloc (Obj.cells (pb 32 (Sha.outByte s) 0) 22)) (Obj.cells (pb 32 (Sha.outByte s) 0) 22)
      simpa using this
  obtain ⟨W, hW, hb, h1, h2, h3⟩ := hT
  rw [← hW]
  clear hW
  generalize hB : w.heap.size = B at *
  generalize hg : Sha.outByte s = g at *
  have hr : Hid (Sha.outByte s = g) := hg
  clear hg
  go_loopw [5] (fun i wr => ∃ k : Nat, k ≤ 32 ∧ i = .int .i64 k ∧ Below B w wr ∧ wr.heap[B]? = some (.cells (words8 s) 49 (0, 0)) ∧ wr.heap[B + 1]? = some (.cells (pb 32 g 0) 22 (0, 0)) ∧ wr.heap[B + 1 + 1]? = some (.cells (pb 32 g k) 22 (0, 0))) (fun i _ => 32 - (intOf i).toNat)
  case atStart => exact ⟨0, by omega, rfl, hb, h1, h2, h3⟩
  case round =>
    clear hb h1 h2 h3
    obtain ⟨k, hk, rfl, hb, h1, h2, h3⟩ := hrel
    by_cases hlt : k < 32
    · have hd : decide ((k : Int) < 32) = true := by simp; omega
      have i0 : (0 : Int) ≤ (k : Int) := by omega
      have i1 : (k : Int) < 32 := by omega
      have gc : wr.cell? ⟨B, k / 4, none⟩ = some (.int .u32 ((Sha.word s (k / 4)).toNat : Int)) := by rw [cell_of_row _ _ _ _ _ _ h1, words8_get s (k / 4) (by omega)]
      have g5 : wr.frozen? ⟨B + 1 + 1, k, none⟩ = false := frozen_of_row _ _ _ _ _ h3
      obtain ⟨v0, g4⟩ : ∃ v, wr.cell? ⟨B + 1 + 1, k, none⟩ = some v := ⟨_, by rw [cell_of_row _ _ _ _ _ _ h3]; exact Array.getElem?_eq_getElem (by rw [pb_size]; omega)⟩
      go_wp2_with fail
      go_round
      case rel =>
        have e : ((Sha.word s (k / 4)).toNat : Int) / 2 ^ (24 - 8 * (k % 4)) % 256 = ((g k).toNat : Int) := by
          rw [← hr.out]; unfold Sha.outByte; rw [UInt8.toNat_ofNat']; exact (cast_div _ _).symm
        refine ⟨k + 1, by omega, by go_num, hb.setCell (by show B ≤ B + 1 + 1; omega) _, ?_, ?_, ?_⟩
        · rw [Below.heap_setCell _ _ _ _ (by show B ≠ B + 1 + 1; omega), h1]
        · rw [Below.heap_setCell _ _ _ _ (by show B + 1 ≠ B + 1 + 1; omega), h2]
        · rw [cell_set _ _ _ _ _ _ h3, e, pb_set 32 g k hlt]
      case measure => simp [intOf]; omega
    · obtain rfl : k = 32 := by omega
      have hd : decide ((32 : Int) < 32) = false := by decide
      have hs : (pb 32 g 32).size = 32 := pb_size 32 g 32
      have ho : (pb 32 g 32).all (·.oneCell') = true := pb_one 32 g 32
      have hz : (pb 32 g 0).size = (pb 32 g 32).size := by rw [pb_size, pb_size]
      have e8 : Hid (pb 32 g 32 = b32 g) := rfl
      generalize pb 32 g 32 = A at *
      have hi : (Tryd.prog.info? 22).map (·.size) = some A.size := by rw [hs]; exact info22
      go_wp2_with (first
        | (refine wpList_load_row rfl 22 _ rfl _ rfl 22 _ (0, 0) _ h3 Tryd.underlying22 rfl hi ?_)
        | (refine wpList_store_row rfl 22 _ _ rfl _ _ rfl rfl 22 _ h2 hi hz ho ?_))
      refine bodyPost_ret (v := .agg A) (results_cell_row Tryd.results24 _ _ (B + 1) 22 A (0, 0) _ rfl (setRow_heap _ _ _ _ _ _ h2) Tryd.underlying22 rfl hi) rfl ⟨by rw [e8.out, hr.out], by subst hB; exact below_setRow hb (by omega) _⟩
end Go.Proofs.YtjoaiagiankfdaaDoor
