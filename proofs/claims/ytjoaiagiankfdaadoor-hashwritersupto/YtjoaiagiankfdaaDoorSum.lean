import Derived.Test.YtjoaiagiankfdaaDoorWrite
import Derived.Test.YtjoaiagiankfdaaDoorPad
import Derived.Test.YtjoaiagiankfdaaDoorBytesOf
namespace Go.Proofs.YtjoaiagiankfdaaDoor
set_option linter.unusedVariables false
set_option linter.unusedSimpArgs false
open Go.RowKit
def dg (m : List UInt8) : Nat → UInt8 := Sha.outByte (Sha.num (m ++ Sha.pad m.length))
theorem info52 : (Tryd.prog.info? 52).map (·.size) = some 73 := by kernel_rfl
def zw : Array Value := wcells ⟨0#32, 0#32, 0#32, 0#32, 0#32, 0#32, 0#32, 0#32⟩ (fun _ => 0) 0
theorem zinfo52 : (Tryd.prog.info? 52).map (fun i => (i.zero, i.size)) = some (some (.agg zw), 73) := by kernel_rfl
theorem zero52 (w : World) : (zeroValue 52).run Tryd.prog w = .ok (.agg zw) w := (zero_of_info zinfo52).1 w
theorem zw_size : zw.size = 73 := wcells_size _ _ _
attribute [local go_sem] zero52 zw_size
theorem ld52 (v : Value) : Instr.loadAt 52 v = ldS 52 v := rfl
theorem st52 (p v : Value) : Instr.storeAt 52 p v = stS 52 p v := rfl
attribute [local go_sem ↓] ld49 ld52 st52
set_option maxHeartbeats 400000 in
set_option maxRecDepth 8000 in
theorem new_any (w : World) :
    Calls Tryd.prog 12 #[] w fun e w' => e = .returned (.pointer (some ⟨w.heap.size, 0, none⟩)) ∧ WrAt w' w.heap.size [] ∧ Below w.heap.size w w' := by
  go_enter Tryd.func12, Tryd.ntmps12
  go_wp2_with fail
  go_ret
  refine ⟨rfl, ⟨fun _ => 0, fun j hj => absurd hj (by simp), ?_⟩, (Below.refl _ _).alloc (Nat.le_refl _) _⟩
  rw [heap_alloc_new]
  show some (Obj.cells (lay zw 0 (words8 Sha.iv).toList) 52) = _
  rw [zw, lay_num]
  rfl
theorem wcells_one (s : Sha.S8) (f : Nat → UInt8) (n : Nat) : (wcells s f n).all (·.oneCell') = true := by
  simp [wcells, words8, bytes64, Value.oneCell']
  decide +kernel
set_option maxHeartbeats 400000 in
set_option maxRecDepth 8000 in
theorem wsum_any (g : Nat) (m : List UInt8) (w : World) (hK : KIn w) (hW : WrAt w g m) (hlen : m.length < 1152921504606846000) :
    Calls Tryd.prog 14 #[.pointer (some ⟨g, 0, none⟩)] w fun e w' => e = .returned (.agg (b32 (dg m))) ∧ Below w.heap.size w w' := by
  obtain ⟨f, hf, hh⟩ := hW
  obtain ⟨A, hA⟩ : ∃ A, A = wcells (Sha.num m) f m.length := ⟨_, rfl⟩
  rw [← hA] at hh
  have hs : A.size = 73 := by rw [hA]; exact wcells_size _ _ _
  have hi : (Tryd.prog.info? 52).map (·.size) = some A.size := by rw [hs]; exact info52
  have ho : A.all (·.oneCell') = true := by rw [hA]; exact wcells_one _ _ _
  have HA : Hid (A = wcells (Sha.num m) f m.length) := hA
  have HF : Hid (∀ j, j < m.length % 64 → f j = Sha.blk m (m.length / 64) j) := hf
  clear hA hf
  have hlt : g < w.heap.size := by
    rcases Nat.lt_or_ge g w.heap.size with h' | h'
    · exact h'
    · rw [Array.getElem?_eq_none h'] at hh; exact absurd hh (by simp)
  have hh1 : ∀ o, (w.alloc o).heap[g]? = some (.cells A 52 (0, 0)) := fun o => by rw [heap_alloc_old _ _ hlt]; exact hh
  have hcell : ∀ o1 o2 C, (((w.alloc o1).alloc o2).setRow (w.heap.size + 1) C).cell? ⟨g, 72, none⟩ = some (.int .u64 (m.length : Int)) := fun o1 o2 C => by
    rw [cell_setRow_other _ _ _ _ (by show g ≠ w.heap.size + 1; omega), cell_of_row _ _ _ _ _ _ (show ((w.alloc o1).alloc o2).heap[g]? = some (.cells A 52 (0, 0)) by rw [heap_alloc_old _ _ (by simp; omega), heap_alloc_old _ _ hlt]; exact hh), HA.out, wcells_len]
  have hrow : ∀ (Z : Array Value), Z = pb 32 (dg m) 0 → ∃ W, W = ((w.alloc (.cells Z 22)).alloc (.cells zw 52)).setRow (w.heap.size + 1) A ∧ Below w.heap.size w W ∧ W.heap[w.heap.size]? = some (.cells (pb 32 (dg m) 0) 22 (0, 0)) ∧ W.heap[w.heap.size + 1]? = some (.cells A 52 (0, 0)) := by
    rintro Z rfl
    refine ⟨_, rfl, below_setRow (((Below.refl _ _).alloc (Nat.le_refl _) _).alloc (by simp) _) (by omega) _, ?_, ?_⟩
    · rw [setRow_other _ _ _ _ (by omega), heap_alloc2_old]
    · exact setRow_heap _ _ _ _ _ _ (heap_alloc2_new _ _ _)
  have l52 : ∀ o, (ldS 52 (.pointer (some ⟨g, 0, none⟩))).run Tryd.prog (w.alloc o) = .ok (.agg A) (w.alloc o) := fun o => by
    show (Instr.loadAt 52 (.pointer (some ⟨g, 0, none⟩))).run Tryd.prog (w.alloc o) = _
    simp only [Instr.loadAt, Instr.sureAddr, Sem.run_bind, Sem.run_pure, Result.andThen_ok, run_loadVar_row _ g 52 52 A (0, 0) _ (hh1 o) Tryd.underlying52 rfl hi]
  have s52 : ∀ o, (stS 52 (.pointer (some ⟨w.heap.size + 1, 0, none⟩)) (.agg A)).run Tryd.prog ((w.alloc o).alloc (.cells zw 52)) = .ok () (((w.alloc o).alloc (.cells zw 52)).setRow (w.heap.size + 1) A) := fun o => by
    show (Instr.storeAt 52 (.pointer (some ⟨w.heap.size + 1, 0, none⟩)) (.agg A)).run Tryd.prog ((w.alloc o).alloc (.cells zw 52)) = _
    simp only [Instr.storeAt, Instr.sureAddr, Sem.run_bind, Sem.run_pure, Result.andThen_ok, run_storeVar_row _ (w.heap.size + 1) 52 52 zw A (heap_alloc2_new _ _ _) hi (by rw [hs]; exact zw_size) ho]
  go_enter Tryd.func14, Tryd.ntmps14
  go_wp2_with fail
  obtain ⟨W2, e2, b2, q2, r2⟩ := hrow _ (pb32 (dg m)).symm
  rw [← e2]
  clear e2 hrow hcell hh1 l52 s52
  have hB0 : 0 < w.heap.size := hK.lt
  have k2 : KIn W2 := hK.below b2 hB0
  generalize hB : w.heap.size = B at *
  refine (padding_any m.length (by omega) _).mono ?_
  rintro e w3 ⟨rfl, b3⟩
  have r3 := carry r2 b3
  have q3 := carry q2 b3
  have b23 : Below B w w3 := b2.trans (b3.mono (by have := b2.size; omega))
  have k3 : KIn w3 := k2.below b3 k2.lt
  have W3 : WrAt w3 (B + 1) m := ⟨f, HF.out, by rw [← HA.out]; exact r3⟩
  clear r2 q2 r3 b2 k2
  have hpl : (⟨(Sha.pad m.length).toArray⟩ : ByteArray).size ≤ 72 := by
    show (Sha.pad m.length).toArray.size ≤ 72
    rw [List.size_toArray, Sha.pad_length]; omega
  go_wp2_with fail
  refine (write_any (B + 1) m ⟨(Sha.pad m.length).toArray⟩ w3 k3 (by omega) W3 (by omega)).mono ?_
  rintro e w4 ⟨rfl, W4, b4⟩
  obtain ⟨f4, hf4, h4⟩ := W4
  have q4 : w4.heap[B]? = some (.cells (pb 32 (dg m) 0) 22 (0, 0)) := by
    rw [b4.block B (by rcases Nat.lt_or_ge B w3.heap.size with h | h; exact h; rw [Array.getElem?_eq_none h] at q3; exact absurd q3 (by simp)) (by omega)]; exact q3
  have b24 : Below B w w4 := b23.trans (b4.below (by have := b23.size; omega) (by omega))
  obtain ⟨a1, a2, a3⟩ := row_facts h4
  clear hf4 W3 k3 b23 b4 q3 a2 a3 b3
  have hS : Hid (Sha.outByte (Sha.num (m ++ (⟨(Sha.pad m.length).toArray⟩ : ByteArray).data.toList)) = dg m) := rfl
  go_wp2_with fail
  refine (bytesOf_any _ _).mono ?_
  rintro e w5 ⟨rfl, b5⟩
  rw [hS.out]
  have q5 := carry q4 b5
  have b25 : Below B w w5 := b24.trans (b5.mono (by have := b24.size; omega))
  clear q4 b24 b5 a1 h4
  have ho : (b32 (dg m)).all (·.oneCell') = true := pb_one _ _ _
  have hz : (pb 32 (dg m) 0).size = (b32 (dg m)).size := by unfold b32; rw [pb_size, pb_size]
  have hi5 : (Tryd.prog.info? 22).map (·.size) = some (b32 (dg m)).size := by unfold b32; rw [pb_size]; exact info22
  go_wp2_with (refine wpList_store_row rfl 22 _ _ rfl _ _ rfl rfl 22 _ q5 hi5 hz ho ?_)
  refine bodyPost_ret (v := .agg (b32 (dg m))) (results_cell_row Tryd.results14 _ _ B 22 (b32 (dg m)) (0, 0) _ rfl (setRow_heap _ _ _ _ _ _ q5) Tryd.underlying22 rfl hi5) rfl ⟨rfl, ?_⟩
  subst hB
  exact below_setRow b25 (Nat.le_refl _) _
end Go.Proofs.YtjoaiagiankfdaaDoor
