/- NamesTexts: the walk. -/
import Derived.Test.YtehjhlaeojmciaaFst
namespace Go.Proofs.Ytehjhlaeojmciaa
set_option linter.unusedVariables false
set_option linter.unusedSimpArgs false
open Go.RowKit
attribute [local go_sem ↓] Go.wp_at_zero Go.wp_at_succ
set_option maxHeartbeats 2000000 in
theorem namesTexts_walk (a b c : List UInt8) (W : World) (ha : a.length ≤ 140737488351232) (hb : b.length ≤ 140737488351232) (hc : c.length ≤ 140737488351232) :
    Calls Try.prog 6 #[str a, str b, str c] W fun e W' => e = .returned (.bool true) ∧ Below W.heap.size W W' := by
  have h1 := fun w => bucket_any a w
  have h2 := fun w => key_any b w
  have h3 := fun w => data_any c w
  have h4 := fun w => rBucket_any a (by omega) w
  have h5 := fun w => rKey_any b w
  have h6 := fun w => rData_any c w
  generalize bkt a = A at *
  generalize keyE b = B at *
  generalize datE c = C at *
  go_enter Try.func6, Try.ntmps6
  go_wp2_with (first
    | (go_at_call 10; refine (h1 _).mono ?_; rintro e w1 ⟨rfl, b1⟩)
    | (go_at_call 14; refine (h2 _).mono ?_; rintro e w2 ⟨rfl, rfl⟩)
    | (go_at_call 15; refine (h3 _).mono ?_; rintro e w3 ⟨rfl, rfl⟩)
    | (go_at_call 9; refine (first_any _).mono ?_; rintro e w4 ⟨rfl, b4⟩)
    | (go_at_call 16; refine (h4 _).mono ?_; rintro e w5 ⟨rfl, rfl⟩)
    | (go_at_call 17; refine (h5 _).mono ?_; rintro e w6 ⟨rfl, rfl⟩)
    | (go_at_call 18; refine (h6 _).mono ?_; rintro e w7 ⟨rfl, rfl⟩))
  go_ret
  exact ⟨rfl, below_seq b1 b4⟩
end Go.Proofs.Ytehjhlaeojmciaa
