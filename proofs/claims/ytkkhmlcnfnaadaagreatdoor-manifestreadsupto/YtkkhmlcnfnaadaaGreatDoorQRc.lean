/- The document's decimal, record. -/
import Derived.Test.YtkkhmlcnfnaadaaGreatDoorGn
import Derived.Test.YtkkhmlcnfnaadaaGreatDoorGi
import Derived.Test.YtkkhmlcnfnaadaaGreatDoorHRHex
namespace Go.Proofs.YtkkhmlcnfnaadaaGreatDoor
set_option maxRecDepth 100000
set_option linter.unusedVariables false
set_option linter.unusedSimpArgs false
open Go.RowKit
open Go.Proofs.YtkkhmlcnfnaadaaGreatDoorP (recd nn LEN key wrote werr refWrite_any refDec_any)
attribute [local go_sem ↓] Go.wp_at_zero Go.wp_at_succ
theorem qdecimal_any (n : Int) (h0 : 0 ≤ n) (h1 : n ≤ 9223372036854775807) (w : World) :
    Calls Tryz.prog 35 #[.int .i64 n] w fun e w' => e = .returned (str (dec n)) ∧ Below w.heap.size w w' := by
  obtain ⟨k, rfl⟩ := Int.eq_ofNat_of_zero_le h0
  have hc := refDec_any k (by omega) w
  have hw : wrap64 (k : Int) = (k : Int) := by unfold wrap64; omega
  go_enter Tryz.func35, Tryz.ntmps35
  go_wp2_with fail
  with_reducible refine Calls.mono hc ?_
  rintro e w1 ⟨rfl, b1⟩
  dsimp only
  clear hc
  go_wp2_with fail
  go_ret
  exact ⟨by first | rfl | (simp [dec]), b1⟩
theorem qrecord_any (k v : List UInt8) (hk : key k = true) (hl : LEN (nn k v) ≤ 1048576) (hs : k.length ≤ 1000000000) (ht : v.length ≤ 1000000000) (w : World) :
    Calls Tryz.prog 34 #[str k, str v] w fun e w' => e = .returned (str (recd k v)) ∧ Below w.heap.size w w' := by
  have hc := refWrite_any ⟨k.toArray⟩ ⟨v.toArray⟩ (by show k.toArray.size ≤ _; simp; omega) (by show v.toArray.size ≤ _; simp; omega) w
  have e1 : wrote k v = recd k v := by unfold wrote; rw [if_neg (by rw [hk]; decide), if_neg (by omega)]
  simp only [] at hc
  rw [e1] at hc
  clear e1
  generalize werr k v = E at hc
  go_enter Tryz.func34, Tryz.ntmps34
  go_wp2_with fail
  with_reducible refine Calls.mono hc ?_
  rintro e w1 ⟨rfl, b1⟩
  dsimp only
  clear hc
  go_wp2_with fail
  go_ret
  exact ⟨rfl, b1⟩
end Go.Proofs.YtkkhmlcnfnaadaaGreatDoor
