/- Stores within regions that draw their order. -/
import Derived.Test.YtaonjmmdgfbceaaApn
namespace Go.Proofs.Ytaonjmmdgfbceaa
set_option linter.unusedVariables false
set_option linter.unusedSimpArgs false
open Go.RowKit
theorem step_st2 {ops : Array Oper} {o : Oper} {a : Act} {K : Act → World → Prop} {Q : Exit → Act → World → Prop} {E : Prop} {w : World} (hgd : o.guard = none) (hd : o.dst = none) (x y : Operand) (ho : o.op = .store 50 x y) {b j : Nat} {p q : List UInt8}
    (h1 : a.eval x = .pointer (some ⟨b, j, none⟩)) (h2 : a.eval y = .agg #[str p, str q]) (hc : ∃ u, w.cell? ⟨b, j, none⟩ = some u) (hc2 : ∃ u, w.cell? ⟨b, j + 1, none⟩ = some u) (hf : ∀ j, w.frozen? ⟨b, j, none⟩ = false) (h : K a ((w.setCell ⟨b, j, none⟩ (str p)).setCell ⟨b, j + 1, none⟩ (str q))) :
    if Region.wanted o (yielded ops a.tmps) = true then Oper.wp Try.prog o a w K Q else E := by
  have hw : Region.wanted o (yielded ops a.tmps) = true := by simp [Region.wanted, hgd]
  rw [if_pos hw]
  have hx : (execOp a.eval o).run Try.prog w = .ok .skip ((w.setCell ⟨b, j, none⟩ (str p)).setCell ⟨b, j + 1, none⟩ (str q)) := by
    obtain ⟨dst, op, ty, pos, after, guard⟩ := o
    simp only at ho
    subst ho
    obtain ⟨u, hc⟩ := hc
    obtain ⟨u2, hc2⟩ := hc2
    have f1 := hf j
    have f2 := hf (j + 1)
    have y5 : (w.setCell ⟨b, j, none⟩ (str p)).cell? ⟨b, j + 1, none⟩ = some u2 := by rw [World.cell?_setCell_other _ _ _ _ (by intro q; injection q with _ q; exact absurd q (Nat.ne_of_lt (Nat.lt_succ_self _)))]; exact hc2
    clear h hw hgd hd hf
    generalize a.eval = ev at *
    go_simp
  unfold Oper.wp
  rw [hx]
  show K (a.put o.dst undef) _
  rw [hd]
  exact h
theorem step_st1 {ops : Array Oper} {o : Oper} {a : Act} {K : Act → World → Prop} {Q : Exit → Act → World → Prop} {E : Prop} {w : World} (hgd : o.guard = none) (hd : o.dst = none) (x y : Operand) {t : TypeId} (ht : t = 9 ∨ t = 31 ∨ t = 22) (ho : o.op = .store t x y) {b j : Nat} {v : Value}
    (h1 : a.eval x = .pointer (some ⟨b, j, none⟩)) (h2 : a.eval y = v) (hv : (t = 9 ∧ ∃ s, v = str s) ∨ (¬ t = 9 ∧ ∃ a n c, v = .slice a n c)) (hc : ∃ u, w.cell? ⟨b, j, none⟩ = some u) (hf : w.frozen? ⟨b, j, none⟩ = false) (h : K a (w.setCell ⟨b, j, none⟩ v)) :
    if Region.wanted o (yielded ops a.tmps) = true then Oper.wp Try.prog o a w K Q else E := by
  have hw : Region.wanted o (yielded ops a.tmps) = true := by simp [Region.wanted, hgd]
  rw [if_pos hw]
  have hx : (execOp a.eval o).run Try.prog w = .ok .skip (w.setCell ⟨b, j, none⟩ v) := by
    obtain ⟨dst, op, ty, pos, after, guard⟩ := o
    simp only at ho
    subst ho
    obtain ⟨u, hc⟩ := hc
    clear h hw hgd hd
    generalize a.eval = ev at *
    rcases hv with ⟨rfl, s, rfl⟩ | ⟨hn, ad, n, c, rfl⟩
    · clear ht
      go_simp
    · rcases ht with rfl | rfl | rfl
      · exact absurd rfl hn
      · clear hn
        go_simp
      · clear hn
        go_simp
  unfold Oper.wp
  rw [hx]
  show K (a.put o.dst undef) _
  rw [hd]
  exact h
end Go.Proofs.Ytaonjmmdgfbceaa
