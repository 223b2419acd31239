/- The document's Read: a text of another length; one entry more. -/
import Derived.Test.YtibmnpkmbhjniaaRwr
namespace Go.Proofs.Ytibmnpkmbhjniaa
set_option linter.unusedVariables false
set_option linter.unusedSimpArgs false
open Go.RowKit
attribute [local go_sem ↓] Go.wp_at_zero Go.wp_at_succ
attribute [local go_sem ↓] sl9 ix9
theorem getD_drop (b : List UInt8) (i j : Nat) : (b.drop i).getD j 0 = b.getD (i + j) 0 := by simp [List.getD_eq_getElem?_getD, List.getElem?_drop]
theorem rde_at (b : List UInt8) (n A : Nat) (h1 : ¬ (b.drop A).length < 2) (h2 : ¬ (b.drop A).length - 2 < (b.getD A 0).toNat + (b.getD (A + 1) 0).toNat) :
    rde (n + 1) (b.drop A) = (rde n (b.drop (A + 2 + (b.getD A 0).toNat + (b.getD (A + 1) 0).toNat))).map (⟨(b.drop (A + 2)).take (b.getD A 0).toNat, (b.drop (A + 2 + (b.getD A 0).toNat)).take (b.getD (A + 1) 0).toNat⟩ :: ·) := by
  have e0 : (b.drop A).getD 0 0 = b.getD A 0 := getD_drop b A 0
  have e1 : (b.drop A).getD 1 0 = b.getD (A + 1) 0 := getD_drop b A 1
  rw [rde_more h1 (by rw [e0, e1]; exact h2), e0, e1, List.drop_drop, List.drop_drop, List.drop_drop]
  simp only [Nat.add_assoc]
set_option maxHeartbeats 4000000 in
theorem rRead_bad (b : List UInt8) (w : World) (h5 : b.length ≠ 512) (hb0 : b.length ≤ 9223372036854775807) :
    Calls Try.prog 26 #[str b] w (ReadP w (rdv b)) := by
  have hv : rdv b = none := by unfold rdv; rw [if_neg h5]
  rw [hv]
  have d0 : ((b.length : Int) != 512) = true := by rw [bne_iff_ne]; omega
  have HX : Hid (∀ w', Below w.heap.size w w' → ReadP w none (.returned (.tuple #[pgv 0 0 (.slice none 0 0), .int .i64 4])) w') := ⟨fun w' h => ⟨h, rfl⟩⟩
  generalize ReadP w none = PP at *
  go_enter Try.func26, Try.ntmps26
  go_wp2_with fail
  refine bodyPost_ret (v := .tuple #[pgv 0 0 (.slice none 0 0), .int .i64 4]) ?_ rfl (HX.out _ ((Below.refl _ _).alloc (Nat.le_refl _) _))
  rw [results_cell_tmp rfl]
  go_simp
end Go.Proofs.Ytibmnpkmbhjniaa
