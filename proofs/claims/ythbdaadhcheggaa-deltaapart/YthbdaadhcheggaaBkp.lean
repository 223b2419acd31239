/- Where the versions of a key stand. -/
import Derived.Test.YthbdaadhcheggaaGb
import Derived.Test.YthbdaadhcheggaaBm
namespace Go.Proofs.Ythbdaadhcheggaa
set_option linter.unusedVariables false
set_option linter.unusedSimpArgs false
open Go.RowKit
attribute [local go_sem ↓] Go.wp_at_zero Go.wp_at_succ
theorem bL_lt {a b : List UInt8} (h : lt a b) : Go.Op.bytesLess a b = true := by rw [bytesLess_eq]; exact decide_eq_true h
theorem bL_not {a b : List UInt8} (h : ¬ lt a b) : Go.Op.bytesLess a b = false := by rw [bytesLess_eq]; exact decide_eq_false h
theorem cmpS_any (a b : List UInt8) (w : World) : Calls Try.prog 39 #[str a, str b] w fun e w' => e = .returned (.int .i64 (bcmp a b)) ∧ w' = w := by
  rcases tri a b with h | h | h
  · have h1 := bL_lt h
    have e : bcmp a b = -1 := h
    rw [e]
    clear h e
    go_enter Try.func39, Try.ntmps39
    go_wp2
    go_ret
    exact ⟨rfl, rfl⟩
  · subst h
    have h1 := bL_not (lt_irrefl (a := a))
    rw [bcmp_self]
    go_enter Try.func39, Try.ntmps39
    go_wp2
    go_ret
    exact ⟨rfl, rfl⟩
  · have h1 := bL_lt h
    have h2 := bL_not (lt_asymm h)
    have h3 : (a == b) = false := by rw [beq_eq_false_iff_ne]; rintro rfl; exact lt_irrefl h
    have e : bcmp a b = 1 := by rw [bcmp_neg b a, h]; rfl
    rw [e]
    clear h e
    go_enter Try.func39, Try.ntmps39
    go_wp2
    go_ret
    exact ⟨rfl, rfl⟩
theorem ken_step {L : List Vs} {k : List UInt8} {i : Nat} {u : Vs} (hu : L[i]? = some u) (he : u.key = k) (h : ∀ j v, j < i → L[j]? = some v → v.key = k) : ∀ j v, j < i + 1 → L[j]? = some v → v.key = k := fun j v hj hv => by
  by_cases e : j = i
  · subst e
    rw [hu] at hv
    injection hv with hv
    subst hv
    exact he
  · exact h j v (by omega) hv
end Go.Proofs.Ythbdaadhcheggaa
