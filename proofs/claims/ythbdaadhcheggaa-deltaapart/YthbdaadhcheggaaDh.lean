/- The document's Right and Same, and number. -/
import Derived.Test.YthbdaadhcheggaaDs
import Derived.Test.YthbdaadhcheggaaDps
import Derived.Test.YthbdaadhcheggaaQrt
namespace Go.Proofs.Ythbdaadhcheggaa
set_option linter.unusedVariables false
set_option linter.unusedSimpArgs false
open Go.RowKit
attribute [local go_sem ↓] Go.wp_at_zero Go.wp_at_succ
set_option maxRecDepth 100000 in
set_option maxHeartbeats 4000000 in
theorem eSame_eq (since next : Int) (L : List Vs) (w : World) (a : Option Addr) (c : Nat) (a' : Option Addr) (c' : Nat) (h1 : Li w L a L.length c) (h2 : Li w L a' L.length c') (hl : L.length ≤ 1000000) :
    Calls Try.prog 17 #[dv since next a L.length c, dv since next a' L.length c'] w fun e w' => e = .returned (.bool true) ∧ Below w.heap.size w w' := by
  have b1 := (Below.refl w.heap.size w).alloc (Nat.le_refl _) (.cells #[.int .i64 since, .int .i64 next, .slice a L.length c] 31)
  have b2 := b1.alloc b1.size (.cells #[.int .i64 since, .int .i64 next, .slice a' L.length c'] 31)
  have hc := qSame_eq next L _ a c a' c' (h1.later b2) (h2.later b2) hl
  clear h1 h2 b1
  go_enter Try.func17, Try.ntmps17
  go_wp2_with fail
  with_reducible refine Calls.mono hc ?_
  rintro e w3 ⟨rfl, b3⟩
  dsimp only
  have B3 := Hid.mk (b2.trans (b3.mono b2.size))
  clear hc b3 b2
  go_wp2_with fail
  go_ret
  exact ⟨rfl, B3.out⟩
/-- a number from 1 to most -/
def nuof (n most : Int) : Int := wrap64 (1 + wrap64 ((IntKind.u64.wrap n).tmod most))
theorem nuof_rg (n most : Int) (h1 : 1 ≤ most) (h2 : most ≤ 1099511627777) : 1 ≤ nuof n most ∧ nuof n most ≤ most := by
  have hu := IntKind.wrap_u64 n
  have e0 : (IntKind.u64.wrap n).tmod most = (IntKind.u64.wrap n) % most := Int.tmod_eq_emod_of_nonneg (by rw [hu]; exact Int.emod_nonneg _ (by decide))
  have m0 : 0 ≤ (IntKind.u64.wrap n) % most := Int.emod_nonneg _ (by omega)
  have m1 : (IntKind.u64.wrap n) % most < most := Int.emod_lt_of_pos _ (by omega)
  unfold nuof
  rw [e0]
  generalize (IntKind.u64.wrap n) % most = X at *
  clear e0 hu
  have e1 : wrap64 X = X := by unfold wrap64; omega
  have e2 : wrap64 (1 + X) = 1 + X := by unfold wrap64; omega
  rw [e1, e2]
  omega
theorem number_any (n most : Int) (w : World) (h1 : 1 ≤ most) (h2 : most ≤ 1099511627777) : Calls Try.prog 6 #[.int .i64 n, .int .i64 most] w fun e w' => e = .returned (.int .i64 (nuof n most)) ∧ w' = w := by
  have hw : IntKind.u64.wrap most = most := by rw [IntKind.wrap_u64]; omega
  have hne : ¬ most = 0 := by omega
  go_enter Try.func6, Try.ntmps6
  go_wp2_with fail
  go_ret
  exact ⟨rfl, rfl⟩
end Go.Proofs.Ythbdaadhcheggaa
