/- copied, Own, own: a version with pairs of its own. -/
import Derived.Test.YtcbajnajamjcnaaBx
namespace Go.Proofs.Ytcbajnajamjcnaa
set_option linter.unusedVariables false
set_option linter.unusedSimpArgs false
open Go.RowKit
attribute [local go_sem ↓] Go.wp_at_zero Go.wp_at_succ
attribute [local go_sem ↓] slPe
set_option maxHeartbeats 2000000 in
theorem copied_any (v : Vs) (w : World) (a : Option Addr) (n cap : Nat) (hn : v.l.length = n) (hS : Sl w a cap v.l) (hl : v.l.length ≤ 4398046510976) :
    Calls Try.prog 49 #[vv v.key v.seq v.mkr v.data a n cap] w fun e w' => ∃ ad c, e = .returned (vv v.key v.seq v.mkr v.data ad v.l.length c) ∧ Ow w.heap.size w' (.slice ad v.l.length c) v.l ∧ Below w.heap.size w w' := by
  obtain ⟨key, seq, mkr, data, l⟩ := v
  simp only at hn hS hl ⊢
  subst hn
  have b1 := (Below.refl w.heap.size w).alloc (Nat.le_refl _) (.cells #[str key, .int .i64 seq, .bool mkr, str data, .slice a l.length cap] 32)
  have b2 := b1.alloc b1.size (.cells #[.string ⟨#[]⟩, .int .i64 0, .bool false, .string ⟨#[]⟩, .slice none 0 0] 32)
  have b2e := b2.alloc b2.size (.cells #[] 56)
  have HX : Hid (∀ w1, Below (w.heap.size + 2) ((w.alloc (.cells #[str key, .int .i64 seq, .bool mkr, str data, .slice a l.length cap] 32)).alloc (.cells #[.string ⟨#[]⟩, .int .i64 0, .bool false, .string ⟨#[]⟩, .slice none 0 0] 32)) w1 → Bv w1 w.heap.size (str key) (.int .i64 seq) (.bool mkr) (str data) (.slice a l.length cap) ∧ Bv w1 (w.heap.size + 1) (.string ⟨#[]⟩) (.int .i64 0) (.bool false) (.string ⟨#[]⟩) (.slice none 0 0)) := ⟨fun w1 h => by
    refine ⟨?_, ?_⟩
    · unfold Bv; rw [h.block _ (by omega), heap_alloc_old _ _ (by simp)]; exact heap_alloc_new _ _
    · unfold Bv; rw [h.block _ (by omega)]
      have := heap_alloc_new (w.alloc (.cells #[str key, .int .i64 seq, .bool mkr, str data, .slice a l.length cap] 32)) (.cells #[.string ⟨#[]⟩, .int .i64 0, .bool false, .string ⟨#[]⟩, .slice none 0 0] 32)
      rw [World.size_alloc] at this
      exact this⟩
  have s2 := hS.later b2
  obtain ⟨u0, u1, u2, u3, u4, _⟩ := (HX.out _ ((Below.refl (w.heap.size + 2) _).alloc (by simp) (.cells #[] 56))).1.cells
  go_enter Try.func49, Try.ntmps49
  go_wp2_with (refine app_sliceB rfl _ _ rfl l (Ow.nil _ (w.heap.size + 2) (by simp)) s2 rfl (by simp; omega) rfl rfl ?_; intro v3 w3 o3 b3; rw [List.nil_append] at o3; obtain ⟨a5, c5, rfl, s3⟩ := o3.sl; obtain ⟨z3, r3⟩ := HX.out w3 (b3); obtain ⟨x0, x1, x2, x3, x4, xf⟩ := z3.cells; have f4 := xf 4; have z6 := z3.set4 (.slice a5 l.length c5); have r6 := r3.other (g2 := w.heap.size) (j := 4) (by omega) (.slice a5 l.length c5); obtain ⟨p0, p1, p2, p3, p4, _⟩ := z6.cells; obtain ⟨q0, q1, q2, q3, q4, qf⟩ := r6.cells; have qf0 := qf 0; have qf1 := qf 1; have qf2 := qf 2; have qf3 := qf 3; have qf4 := qf 4; clear xf qf)
  rw [s5_eq]
  have hno : (Value.slice a5 l.length c5).ownBlock ≠ some w.heap.size := fun q => by
    have := (o3.own.lt _ q).1
    omega
  have hno2 : (Value.slice a5 l.length c5).ownBlock ≠ some (w.heap.size + 1) := fun q => by
    have := (o3.own.lt _ q).1
    omega
  have o6 := (o3.base (b' := w.heap.size) (by omega)).other (g := w.heap.size) (j := 4) hno (.slice a5 l.length c5)
  have B6 := (b2.trans (b3.mono (by omega))).setCell (p := ⟨w.heap.size, 4, none⟩) (Nat.le_refl _) (.slice a5 l.length c5)
  have z7 := r6.s5 (str key) (.int .i64 seq) (.bool mkr) (str data) (.slice a5 l.length c5)
  have o7 := o6.s5 hno2 (str key) (.int .i64 seq) (.bool mkr) (str data) (.slice a5 l.length c5)
  have B7 := Below.s5 B6 (R := w.heap.size + 1) (by omega) (str key) (.int .i64 seq) (.bool mkr) (str data) (.slice a5 l.length c5)
  generalize s5 (w3.setCell ⟨w.heap.size, 4, none⟩ (.slice a5 l.length c5)) (w.heap.size + 1) (str key) (.int .i64 seq) (.bool mkr) (str data) (.slice a5 l.length c5) = W7 at *
  obtain ⟨g0, g1, g2, g3, g4, _⟩ := z7.cells
  refine bodyPost_ret (v := vv key seq mkr data a5 l.length c5) ?_ rfl ⟨a5, c5, rfl, o7, B7⟩
  rw [results_cell1 rfl]
  go_simp
end Go.Proofs.Ytcbajnajamjcnaa
