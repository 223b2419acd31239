/- places. -/
import Derived.Test.YtcbajnajamjcnaaBkp
namespace Go.Proofs.Ytcbajnajamjcnaa
set_option linter.unusedVariables false
set_option linter.unusedSimpArgs false
open Go.RowKit
attribute [local go_sem ↓] Go.wp_at_zero Go.wp_at_succ
attribute [local go_sem ↓] slVe
set_option maxHeartbeats 2000000 in
theorem places_any (L : List Vs) (k : List UInt8) (w : World) (a : Option Addr) (n cap : Nat) (hL : Li w L a n cap) :
    Calls Try.prog 26 #[.slice a n cap, str k] w fun e w' => (∃ i : Nat, e = .returned (.tuple #[.int .i64 (i : Int), .int .i64 ((i + ken (L.drop i) k : Nat) : Int)]) ∧ i ≤ L.length ∧ (SrtV L → i = fndV L k)) ∧ Below w.heap.size w w' := by
  obtain rfl := hL.n
  have hl := hL.l
  have hb := bsearch_any L k w a L.length cap rfl hL.s.at' (by omega)
  go_enter Try.func26, Try.ntmps26
  go_wp2_with fail
  with_reducible refine Calls.mono hb ?_
  rintro e w1 ⟨⟨i, t, rfl, hi, hs⟩, b1⟩
  dsimp only
  have HS := Hid.mk hs
  clear hs hb
  have hL1 := hL.later b1
  have hr := fun w => run_slV_lo a L.length cap i hi hL1.s.le hL1.s.max hL1.s.nil w
  have hke := fun w' hb => keyEnd_any (L.drop i) k w' (dropV a cap i) (L.length - i) (cap - i) (by rw [List.length_drop]) ((hL1.s.drop i hi).at'.later (w' := w') hb) (by rw [List.length_drop]; omega)
  have hkl := ken_le (L.drop i) k
  rw [List.length_drop] at hkl
  have hw : wrap64 ((i : Int) + (ken (L.drop i) k : Int)) = ((i + ken (L.drop i) k : Nat) : Int) := by unfold wrap64; omega
  go_wp2_with fail
  with_reducible refine Calls.mono (hke w1 (Below.refl _ _)) ?_
  rintro e w2 ⟨rfl, b2⟩
  dsimp only
  go_wp2_with fail
  go_ret2
  exact ⟨⟨i, rfl, hi, HS.out⟩, b1.trans (b2.mono b1.size)⟩
end Go.Proofs.Ytcbajnajamjcnaa
