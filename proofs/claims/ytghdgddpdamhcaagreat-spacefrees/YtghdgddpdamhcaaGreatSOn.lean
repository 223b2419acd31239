import Derived.Test.YtghdgddpdamhcaaGreatSStep
import Derived.Deep.WholeRow
namespace Go.Proofs.YtghdgddpdamhcaaGreat.Sum
set_option linter.unusedVariables false
open Go.RowKit
def inv (x : BitVec 64) : BitVec 64 := ~~~ x
def shr4 (x : BitVec 64) : BitVec 64 := x >>> 4
theorem inv_bv (x : BitVec 64) : bits BinOp.xor IntKind.u64 IntKind.u64.max (x.toNat : Int) = ((inv x).toNat : Int) := not_bv x
theorem shr4_bv (x : BitVec 64) : (x.toNat : Int) / (16 : Int) = ((shr4 x).toNat : Int) := shr_bv x
theorem halves_bv (x : BitVec 64) : bits BinOp.xor IntKind.u64 ((shr4 x).toNat : Int) ((Crc.four (x.toNat % 16)).toNat : Int) = ((Crc.stepN 4 x).toNat : Int) := by
  rw [xor_bv]; exact congrArg (fun z : BitVec 64 => (z.toNat : Int)) (half_bv x)
theorem on_inv (x : BitVec 64) (l : List UInt8) : inv (Crc.onX (inv x) l) = Crc.on x l := rfl
attribute [local go_sem] inv_bv shr4_bv and15_bv lay_bv halves_bv eight_bv byte_bv

theorem tab_cell (w : World) (m : Nat) (h : m < 16) : (w.alloc (.cells (tabTo 16) 177)).cell? ⟨w.heap.size, m, none⟩ = some (.int .u64 ((Crc.four m).toNat : Int)) := by
  rw [cell_of_row _ _ m (tabTo 16) 177 (0, 0) (heap_alloc_last w _), Array.getElem?_eq_getElem (by rw [tabTo_size]; exact h), tabTo_get, if_pos h]

set_option maxHeartbeats 400000 in
theorem on_any (x : BitVec 64) (s : ByteArray) (w : World) (hs : s.size ≤ maxLen) :
    Calls Tryz.prog 137 #[.int .u64 (x.toNat : Int), .string s] w fun e w' => e = .returned (.int .u64 ((Crc.on x s.data.toList).toNat : Int)) ∧ Below w.heap.size w w' := by
  unfold maxLen at hs
  go_enter Tryz.func137, Tryz.ntmps137
  go_wp2_with fail
  refine (four_any _).mono ?_
  rintro e w1 ⟨rfl, hb⟩
  rw [tabTo_16]
  go_wp2_with fail
  rw [← tabTo_16]
  have hbel : Below w.heap.size w (w1.alloc (.cells (tabTo 16) 177)) := hb.alloc hb.size _
  have hcell : ∀ y : BitVec 64, (w1.alloc (.cells (tabTo 16) 177)).cell? ⟨w1.heap.size, y.toNat % 16, none⟩ = some (.int .u64 ((Crc.four (y.toNat % 16)).toNat : Int)) := fun y => tab_cell w1 _ (Nat.mod_lt _ (by decide))
  generalize w1.alloc (.cells (tabTo 16) 177) = W at *
  clear hb
  go_loop [6, 13] (fun y i => ∃ k : Nat, k ≤ s.size ∧ i = .int .i64 k ∧ y = .int .u64 ((Crc.onX (inv x) (s.data.toList.take k)).toNat : Int)) (fun _ i => s.size - (intOf i).toNat)
  case atStart => exact ⟨0, Nat.zero_le _, rfl, rfl⟩
  case round =>
    obtain ⟨k, hk, rfl, rfl⟩ := hrel
    by_cases hlt : k < s.size
    · have HS : Hid (Crc.onX (inv x) (s.data.toList.take (k + 1)) = Crc.stepN 8 (Crc.lay (Crc.onX (inv x) (s.data.toList.take k)) s[k])) := by rw [take_snoc s k hlt]; exact onX_snoc _ _ _
      go_wp2
      go_round
      case rel => exact ⟨k + 1, by omega, by go_num, by rw [HS.out]⟩
      case measure => simp [intOf]; omega
    · have HS : Hid (Crc.onX (inv x) (s.data.toList.take k) = Crc.onX (inv x) s.data.toList) := by rw [List.take_of_length_le (by simp; omega)]; rfl
      go_wp2
      go_ret
      exact ⟨ret_u64 (by rw [HS.out, on_inv]), hbel⟩
end Go.Proofs.YtghdgddpdamhcaaGreat.Sum
