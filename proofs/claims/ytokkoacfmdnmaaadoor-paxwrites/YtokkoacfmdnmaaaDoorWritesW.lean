/- PaxWrites: the walk. -/
import Derived.Test.YtokkoacfmdnmaaaDoorHead
namespace Go.Proofs.YtokkoacfmdnmaaaDoor
set_option linter.unusedVariables false
set_option linter.unusedSimpArgs false
open Go.RowKit
namespace paxWrites
attribute [local go_sem ↓] Go.wp_at_zero Go.wp_at_succ
theorem walk (k v : ByteArray) (hk : k.size ≤ 140737488351232) (hv : v.size ≤ 140737488351232) (w : World) (hT : TB w) :
    Calls Tryd.prog 6 #[.string k, .string v] w fun e w' => e = .returned (.bool true) ∧ Below w.heap.size w w' := by
  have c1 := fun w ht => write_any k v (by omega) (by omega) w ht
  have c2 := fun w => refWrite_any k v (by omega) (by omega) w
  unfold str at c1 c2
  generalize (⟨(wrote k.data.toList v.data.toList).toArray⟩ : ByteArray) = q at *
  generalize werr k.data.toList v.data.toList = r at *
  go_enter Tryd.func6, Tryd.ntmps6
  go_wp2_with fail
  refine (c1 _ hT).mono ?_
  rintro e w1 ⟨rfl, b1⟩
  dsimp only
  go_wp2_with fail
  refine (c2 _).mono ?_
  rintro e w2 ⟨rfl, b2⟩
  replace b2 := below_seq b1 b2
  dsimp only
  go_wp2_with fail
  refine (head_any _ (hT.below b2)).mono ?_
  rintro e w3 ⟨rfl, b3⟩
  replace b3 := below_seq b2 b3
  dsimp only
  go_wp2_with fail
  go_ret
  exact ⟨rfl, b3⟩
end paxWrites
end Go.Proofs.YtokkoacfmdnmaaaDoor
