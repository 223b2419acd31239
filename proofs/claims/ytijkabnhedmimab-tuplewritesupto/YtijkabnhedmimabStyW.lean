/- stays: a lent list is as it was. -/
import Derived.Test.YtijkabnhedmimabOwnW
namespace Go.Proofs.Ytijkabnhedmimab
set_option linter.unusedVariables false
set_option linter.unusedSimpArgs false
open Go.RowKit
attribute [local go_sem ↓] Go.wp_at_zero Go.wp_at_succ
attribute [local go_sem ↓] slPe
set_option maxHeartbeats 2000000 in
theorem stays_any (l : List Pt) (w : World) (ad a : Option Addr) (c cap : Nat) (hS : Sl w ad c (l ++ [k77, kmk])) (hP : PIn w a l) (hl : l.length ≤ 100000000) :
    Calls Try.prog 12 #[.slice ad (l.length + 2) c, .slice a l.length cap] w fun e w' => e = .returned (.bool true) ∧ Below w.heap.size w w' := by
  have hsp := run_slP ad (l.length + 2) c l.length (by omega) (by have := hS.le; simpa using this) hS.max hS.nil
  obtain ⟨b, off, rfl, hbl, c0, c1, c2⟩ := hS.at'.get l.length k77 (by simp)
  obtain ⟨d0, d1, d2⟩ := hS.at'.cell3 (k := l.length + 1) (p := kmk) (by simp [List.getElem?_append_right])
  have hP1 : PIn w (some ⟨b, off, none⟩) l := by have := hS.at'.take l.length; simpa using this
  have hsm := fun w' (h : Below w.heap.size w w') => same_self l w' (some ⟨b, off, none⟩) a c cap (hP1.later h) (hP.later h) (by omega)
  go_enter Try.func12, Try.ntmps12
  go_wp2_with fail
  refine (hsm _ (Below.refl _ _)).mono ?_
  rintro e w1 ⟨rfl, hb1⟩
  go_wp2_with fail
  go_ret
  exact ⟨rfl, hb1⟩
end Go.Proofs.Ytijkabnhedmimab
