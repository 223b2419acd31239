/- lentPairs; SameRows. -/
import Derived.Test.YtaonjmmdgfbceaaRws
namespace Go.Proofs.Ytaonjmmdgfbceaa
set_option linter.unusedVariables false
set_option linter.unusedSimpArgs false
open Go.RowKit
attribute [local go_sem ↓] Go.wp_at_zero Go.wp_at_succ
attribute [local go_sem ↓] slPe
theorem lentPairs_any (l : List En) (w : World) (a : Option Addr) (n cap : Nat) (hn : l.length = n) (hS : Sl w a cap l) (hl : l.length ≤ 4398046510976) :
    Calls Try.prog 42 #[.slice a n cap] w fun e w' => ∃ ad c, e = .returned (.slice ad (l.length + 1) c) ∧ Ow w.heap.size w' (.slice ad (l.length + 1) c) (l ++ [mk]) ∧ Below w.heap.size w w' := by
  subst hn
  have be := (Below.refl w.heap.size w).alloc (Nat.le_refl _) (.cells #[] 50)
  have oe := Ow.empty (base := w.heap.size) w (Nat.le_refl _)
  have s1 := hS.later be
  go_enter Try.func42, Try.ntmps42
  go_wp2_with (first
    | (refine app_sliceB rfl _ _ rfl l oe s1 rfl (by simp; omega) rfl rfl ?_; intro v1 w1 o1 b1)
    | (refine app_oneB rfl _ _ rfl mk rfl o1 rfl (by simp; omega) rfl rfl ?_; intro v2 w2 o2 b2; obtain ⟨a2, c2, rfl, s2⟩ := o2.sl; rw [List.nil_append] at s2 o2))
  go_ret
  refine ⟨a2, c2, by simp, ?_, (be.trans b1).trans b2⟩
  simpa using o2
end Go.Proofs.Ytaonjmmdgfbceaa
