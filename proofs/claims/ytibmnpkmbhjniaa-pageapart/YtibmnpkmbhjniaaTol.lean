/- bookOf. -/
import Derived.Test.YtibmnpkmbhjniaaApm
import Derived.Test.YtibmnpkmbhjniaaLawb
import Derived.Test.YtibmnpkmbhjniaaRdp
namespace Go.Proofs.Ytibmnpkmbhjniaa
set_option linter.unusedVariables false
set_option linter.unusedSimpArgs false
open Go.RowKit
attribute [local go_sem ↓] Go.wp_at_zero Go.wp_at_succ
attribute [local go_sem ↓] slPe sl9
set_option maxHeartbeats 1000000 in
theorem bookOf_any (l : List En) (w : World) (ax ay : Option Addr) (nx n cx cy : Nat) (hn : l.length = n) (hS : Sl w ay cy l) (hl : l.length ≤ 100000000000) :
    Calls Try.prog 44 #[.slice ax nx cx, .slice ay n cy] w fun e w' => ∃ az cz, e = .returned (.agg #[.slice ax nx cx, .slice ay n cy, .slice az n cz]) ∧ Ow w.heap.size w' (.slice az n cz) l ∧ Below w.heap.size w w' := by
  subst hn
  have hS' := hS.later ((Below.refl _ _).alloc (Nat.le_refl _) (.cells #[.slice none 0 0, .slice none 0 0, .slice none 0 0] 54))
  go_enter Try.func44, Try.ntmps44
  go_wp2_with (refine app_slice rfl _ _ rfl l (Ow.nil _ (w.heap.size + 1) (by simp)) hS' rfl (by simp; omega) rfl rfl ?_; rw [List.nil_append]; intro v1 w1 o1 b1; obtain ⟨az, cz, rfl, s1⟩ := o1.sl; have k0 : w1.heap[w.heap.size]? = some (.cells #[.slice none 0 0, .slice none 0 0, .slice none 0 0] 54 (0, 0)) := by { rw [b1.block _ (by omega)]; exact heap_alloc_new _ _ }; obtain ⟨e0, e1, e2⟩ := box3 k0; have f0 := frozen_of_row _ _ 0 _ _ k0; have f1 := frozen_of_row _ _ 1 _ _ k0; have f2 := frozen_of_row _ _ 2 _ _ k0)
  have h3 := set3 (a' := .slice ax nx cx) (b' := .slice ay l.length cy) (c' := .slice az l.length cz) k0
  obtain ⟨g0, g1, g2⟩ := box3 h3
  have HB2 := below_set3 (a := .slice ax nx cx) (b := .slice ay l.length cy) (c := .slice az l.length cz) (((Below.refl w.heap.size w).alloc (Nat.le_refl _) _).trans (b1.mono (Nat.le_succ _)))
  have HO2 := ow_set3 (B := 0) (a := .slice ax nx cx) (b := .slice ay l.length cy) (c := .slice az l.length cz) o1
  generalize ((w1.setCell ⟨w.heap.size, 0, none⟩ (.slice ax nx cx)).setCell ⟨w.heap.size, 1, none⟩ (.slice ay l.length cy)).setCell ⟨w.heap.size, 2, none⟩ (.slice az l.length cz) = w9 at *
  refine bodyPost_ret (v := .agg #[.slice ax nx cx, .slice ay l.length cy, .slice az l.length cz]) ?_ rfl ⟨az, cz, rfl, HO2, HB2⟩
  rw [results_cell1 rfl]
  go_simp
end Go.Proofs.Ytibmnpkmbhjniaa
