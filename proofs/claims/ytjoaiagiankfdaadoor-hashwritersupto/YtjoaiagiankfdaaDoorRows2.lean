/- Rows of bytes that are filled from the left. -/
import Derived.Test.YtjoaiagiankfdaaDoorSpread
import Derived.Laws.IdiomStrings
namespace Go.Proofs.YtjoaiagiankfdaaDoor
set_option linter.unusedVariables false
set_option linter.unusedSimpArgs false
open Go.RowKit
def pb (n : Nat) (g : Nat → UInt8) (k : Nat) : Array Value := (Array.range n).map fun j => .int .u8 (((if j < k then g j else 0) : UInt8).toNat : Int)
theorem pb_size (n : Nat) (g : Nat → UInt8) (k : Nat) : (pb n g k).size = n := by simp [pb]
theorem pb_get (n : Nat) (g : Nat → UInt8) (k j : Nat) (h : j < k) (hj : j < n) : (pb n g k)[j]? = some (.int .u8 ((g j).toNat : Int)) := by
  simp [pb, hj, h]
theorem pb_set (n : Nat) (g : Nat → UInt8) (k : Nat) (h : k < n) : (pb n g k).setIfInBounds k (.int .u8 ((g k).toNat : Int)) = pb n g (k + 1) := by
  apply Array.ext
  · rw [Array.size_setIfInBounds, pb_size, pb_size]
  · intro i h1 h2
    have hi : i < (pb n g k).size := by rw [pb_size] at *; exact h2
    rw [Array.getElem_setIfInBounds hi]
    simp only [pb, Array.getElem_map, Array.getElem_range]
    by_cases e : k = i
    · subst e; simp
    · rw [if_neg e]
      by_cases e2 : i < k
      · rw [if_pos e2, if_pos (by omega)]
      · rw [if_neg e2, if_neg (by omega)]
theorem pb_one (n : Nat) (g : Nat → UInt8) (k : Nat) : (pb n g k).all (·.oneCell') = true := by
  rw [Array.all_eq_true]; intro i h; simp only [pb, Array.getElem_map]; rfl
theorem pb_0 (n : Nat) (g : Nat → UInt8) : pb n g 0 = Array.replicate n (.int .u8 0) := by
  unfold pb
  simp only [Nat.not_lt_zero, if_false]
  apply Array.ext
  · simp
  · intro i h1 h2; simp
theorem pb32 (g : Nat → UInt8) : pb 32 g 0 = #[.int .u8 0, .int .u8 0, .int .u8 0, .int .u8 0, .int .u8 0, .int .u8 0, .int .u8 0, .int .u8 0, .int .u8 0, .int .u8 0, .int .u8 0, .int .u8 0, .int .u8 0, .int .u8 0, .int .u8 0, .int .u8 0, .int .u8 0, .int .u8 0, .int .u8 0, .int .u8 0, .int .u8 0, .int .u8 0, .int .u8 0, .int .u8 0, .int .u8 0, .int .u8 0, .int .u8 0, .int .u8 0, .int .u8 0, .int .u8 0, .int .u8 0, .int .u8 0] := by rw [pb_0]; rfl
theorem pb8 (g : Nat → UInt8) : pb 8 g 0 = #[.int .u8 0, .int .u8 0, .int .u8 0, .int .u8 0, .int .u8 0, .int .u8 0, .int .u8 0, .int .u8 0] := by rw [pb_0]; rfl
theorem pb64 (g : Nat → UInt8) : pb 64 g 0 = #[.int .u8 0, .int .u8 0, .int .u8 0, .int .u8 0, .int .u8 0, .int .u8 0, .int .u8 0, .int .u8 0, .int .u8 0, .int .u8 0, .int .u8 0, .int .u8 0, .int .u8 0, .int .u8 0, .int .u8 0, .int .u8 0, .int .u8 0, .int .u8 0, .int .u8 0, .int .u8 0, .int .u8 0, .int .u8 0, .int .u8 0, .int .u8 0, .int .u8 0, .int .u8 0, .int .u8 0, .int .u8 0, .int .u8 0, .int .u8 0, .int .u8 0, .int .u8 0, .int .u8 0, .int .u8 0, .int .u8 0, .int .u8 0, .int .u8 0, .int .u8 0, .int .u8 0, .int .u8 0, .int .u8 0, .int .u8 0, .int .u8 0, .int .u8 0, .int .u8 0, .int .u8 0, .int .u8 0, .int .u8 0, .int .u8 0, .int .u8 0, .int .u8 0, .int .u8 0, .int .u8 0, .int .u8 0, .int .u8 0, .int .u8 0, .int .u8 0, .int .u8 0, .int .u8 0, .int .u8 0, .int .u8 0, .int .u8 0, .int .u8 0, .int .u8 0] := by rw [pb_0]; rfl
theorem pb_irrel (n : Nat) (g h : Nat → UInt8) : pb n g 0 = pb n h 0 := by rw [pb_0, pb_0]
/-- The 32 bytes of a hash, as a value. -/
def b32 (g : Nat → UInt8) : Array Value := pb 32 g 32
theorem b32_get (g : Nat → UInt8) (j : Nat) (hj : j < 32) : (b32 g)[j]? = some (.int .u8 ((g j).toNat : Int)) := pb_get 32 g 32 j hj hj
theorem info22 : (Tryd.prog.info? 22).map (·.size) = some 32 := by kernel_rfl
theorem info45 : (Tryd.prog.info? 45).map (·.size) = some 64 := by kernel_rfl
theorem conv_row {w' : World} {B n T : Nat} {g : Nat → UInt8} (h : w'.heap[B]? = some (.cells (pb n g n) T (0, 0))) : (convert 27 9 (.slice (some ⟨B, 0, none⟩) n n)).run Tryd.prog w' = .ok (.string ⟨((List.range n).map g).toArray⟩) w' := by
  have hl : ((List.range n).map g).length = n := by simp
  have := run_convert_bytes_back (P := Tryd.prog) w' 27 9 5 ⟨B, 0, none⟩ n ((List.range n).map g) Tryd.underlying27 Tryd.underlying5 Tryd.underlying9 (by
    intro j hj
    have hadd : (⟨B, 0, none⟩ : Addr).add j = ⟨B, j, none⟩ := by unfold Addr.add; split <;> simp_all
    have hj' : j < n := by rw [hl] at hj; exact hj
    rw [hadd, cell_of_row _ _ _ _ _ _ h, pb_get n g n j hj' hj']
    simp)
  rw [hl] at this
  exact this
theorem cast_div (a e : Nat) : ((a / 2 ^ e % 2 ^ 8 : Nat) : Int) = (a : Int) / 2 ^ e % 256 := by
  rw [Int.natCast_emod, Int.natCast_ediv, Int.natCast_pow]; rfl
end Go.Proofs.YtjoaiagiankfdaaDoor
