import Derived.Test.YtghdgddpdamhcaaGreatSOn
namespace Go.Proofs.YtghdgddpdamhcaaGreat.Sum
set_option linter.unusedVariables false
open Go.RowKit

theorem on_zero (s : ByteArray) (w : World) (hs : s.size ≤ maxLen) :
    Calls Tryz.prog 137 #[.int .u64 0, .string s] w fun e w' => e = .returned (.int .u64 ((Crc.on 0#64 s.data.toList).toNat : Int)) ∧ Below w.heap.size w w' :=
  on_any 0#64 s w hs

set_option maxHeartbeats 400000 in
theorem of_any (s : ByteArray) (w : World) (hs : s.size ≤ maxLen) :
    Calls Tryz.prog 127 #[.string s] w fun e w' => e = .returned (.int .u64 ((Crc.on 0#64 s.data.toList).toNat : Int)) ∧ Below w.heap.size w w' := by
  go_enter Tryz.func127, Tryz.ntmps127
  go_wp2_with fail
  refine (on_zero _ _ hs).mono ?_
  rintro e w1 ⟨rfl, hb⟩
  go_wp2
  go_ret
  exact ⟨rfl, hb⟩

end Go.Proofs.YtghdgddpdamhcaaGreat.Sum
