/- lent, kept. -/
import Derived.Test.YtahdndmmakdamaaBmp
import Derived.Deep.RegionLaw
namespace Go.Proofs.Ytahdndmmakdamaa
set_option linter.unusedVariables false
set_option linter.unusedSimpArgs false
open Go.RowKit
attribute [local go_sem ↓] Go.wp_at_zero Go.wp_at_succ
attribute [local go_sem ↓] slPe
set_option maxHeartbeats 2000000 in
theorem lent_any (v : Vs) (w : World) (a : Option Addr) (n cap : Nat) (hn : v.l.length = n) (hS : Sl w a cap v.l) (hl : v.l.length ≤ 4398046510976) :
    Calls Try.prog 12 #[vv v.key v.seq v.mkr v.data a n cap] w fun e w' => ∃ ad c, e = .returned (vv v.key v.seq v.mkr v.data ad v.l.length c) ∧ Ow w.heap.size w' (.slice ad (v.l.length + 1) c) (v.l ++ [mk]) ∧ Below w.heap.size w w' := by
  obtain ⟨key, seq, mkr, data, l⟩ := v
  simp only at hn hS hl ⊢
  subst hn
  have b1 := (Below.refl w.heap.size w).alloc (Nat.le_refl _) (.cells #[str key, .int .i64 seq, .bool mkr, str data, .slice a l.length cap] 24)
  have b2 := b1.alloc b1.size (.cells #[.string ⟨#[]⟩, .int .i64 0, .bool false, .string ⟨#[]⟩, .slice none 0 0] 24)
  have HX : Hid (∀ w1, Below (w.heap.size + 2) ((w.alloc (.cells #[str key, .int .i64 seq, .bool mkr, str data, .slice a l.length cap] 24)).alloc (.cells #[.string ⟨#[]⟩, .int .i64 0, .bool false, .string ⟨#[]⟩, .slice none 0 0] 24)) w1 → Bv w1 w.heap.size (str key) (.int .i64 seq) (.bool mkr) (str data) (.slice a l.length cap) ∧ Bv w1 (w.heap.size + 1) (.string ⟨#[]⟩) (.int .i64 0) (.bool false) (.string ⟨#[]⟩) (.slice none 0 0)) := ⟨fun w1 h => by
    refine ⟨?_, ?_⟩
    · unfold Bv; rw [h.block _ (by omega), heap_alloc_old _ _ (by simp)]; exact heap_alloc_new _ _
    · unfold Bv; rw [h.block _ (by omega)]
      have := heap_alloc_new (w.alloc (.cells #[str key, .int .i64 seq, .bool mkr, str data, .slice a l.length cap] 24)) (.cells #[.string ⟨#[]⟩, .int .i64 0, .bool false, .string ⟨#[]⟩, .slice none 0 0] 24)
      rw [World.size_alloc] at this
      exact this⟩
  have s2 := hS.later b2
  go_enter Try.func12, Try.ntmps12
  go_wp2_with (refine app_sliceB rfl _ _ rfl l (Ow.nil _ (w.heap.size + 2) (by simp)) s2 rfl (by simp; omega) rfl rfl ?_; intro v3 w3 o3 b3)
  rw [List.nil_append] at o3
  obtain ⟨z3, r3⟩ := HX.out w3 b3
  obtain ⟨x0, x1, x2, x3, x4, xf⟩ := z3.cells
  have f4 := xf 4
  have hbz := b3.alloc (by have := b3.size; simp at this; omega) (.cells #[str mk.key, str mk.val] 34)
  obtain ⟨_, _, _, _, y4, yf⟩ := (HX.out _ hbz).1.cells
  have y4' : (w3.alloc (.cells #[.string ⟨#[109, 97, 114, 107]⟩, .string ⟨#[]⟩] 34)).cell? ⟨w.heap.size, 4, none⟩ = some (.slice a l.length cap) := y4
  have hs3 := b3.size
  simp at hs3
  clear xf yf
  go_region_law (refine step_app rfl _ _ rfl [mk] (by first | exact (o3.alloc _).drew | exact o3.drew.alloc _) (by first | exact sl_one mk (heap_alloc_new _ _)) rfl (by simp; omega) rfl rfl ?_; intro v5 w5 o5 b5; obtain ⟨a5, c5, hv5, s5⟩ := o5.sl; have hl5 : (l ++ [mk]).length = l.length + 1 := (by simp); rw [hl5] at hv5; subst hv5; have hB5 : Below (w.heap.size + 2) w3 w5 := (((Below.refl _ _).alloc (by omega) _).drew).trans b5; obtain ⟨z5, r5⟩ := HX.out w5 (b3.trans hB5); obtain ⟨p0, p1, p2, p3, p4, pf⟩ := z5.cells; have pf4 := pf 4; have hr := fun w => run_slP a5 (l.length + 1) c5 l.length (by have := s5.le; simp at this; omega) s5.max s5.nil w; clear pf)
  all_goals
    have z6 := z5.set4 (.slice a5 l.length c5)
    have r6 := r5.other (g2 := w.heap.size) (j := 4) (by omega) (.slice a5 l.length c5)
    have hno : (Value.slice a5 (l.length + 1) c5).ownBlock ≠ some w.heap.size := fun q => by
      have := (o5.own.lt _ q).1
      omega
    have hno2 : (Value.slice a5 (l.length + 1) c5).ownBlock ≠ some (w.heap.size + 1) := fun q => by
      have := (o5.own.lt _ q).1
      omega
    have o6 := (o5.base (b' := w.heap.size) (by omega)).other (g := w.heap.size) (j := 4) hno (.slice a5 l.length c5)
    have B6 := (b2.trans ((b3.trans hB5).mono (by omega))).setCell (p := ⟨w.heap.size, 4, none⟩) (Nat.le_refl _) (.slice a5 l.length c5)
    clear z5 r5 p0 p1 p2 p3 p4 pf4 x0 x1 x2 x3 x4 y4 y4' f4 b5 o5 hr s5 z3 r3 hbz hB5
    generalize w5.setCell ⟨w.heap.size, 4, none⟩ (.slice a5 l.length c5) = W6 at *
    obtain ⟨p0, p1, p2, p3, p4, _⟩ := z6.cells
    obtain ⟨q0, q1, q2, q3, q4, qf⟩ := r6.cells
    have qf0 := qf 0
    have qf1 := qf 1
    have qf2 := qf 2
    have qf3 := qf 3
    have qf4 := qf 4
    clear qf
    have z7 := r6.s5 (str key) (.int .i64 seq) (.bool mkr) (str data) (.slice a5 l.length c5)
    have o7 := o6.s5 hno2 (str key) (.int .i64 seq) (.bool mkr) (str data) (.slice a5 l.length c5)
    have B7 := Below.s5 B6 (R := w.heap.size + 1) (by omega) (str key) (.int .i64 seq) (.bool mkr) (str data) (.slice a5 l.length c5)
    go_wp2_with fail
    rw [s5_eq]
    generalize s5 W6 (w.heap.size + 1) (str key) (.int .i64 seq) (.bool mkr) (str data) (.slice a5 l.length c5) = W7 at *
    obtain ⟨g0, g1, g2, g3, g4, _⟩ := z7.cells
    refine bodyPost_ret (v := vv key seq mkr data a5 l.length c5) ?_ rfl ⟨a5, c5, rfl, o7, B7⟩
    rw [results_cell1 rfl]
    go_simp
set_option maxHeartbeats 2000000 in
theorem vkept_any (v : Vs) (w : World) (ad a : Option Addr) (n c cap : Nat) (hn : v.l.length = n) (hM : Sl w ad c (v.l ++ [mk])) (hL : PIn w a v.l) (hl : v.l.length ≤ 4398046510976) :
    Calls Try.prog 14 #[vv v.key v.seq v.mkr v.data ad n c, vv v.key v.seq v.mkr v.data a n cap] w fun e w' => e = .returned (.bool true) ∧ Below w.heap.size w w' := by
  have hsm : ∀ w, PIn w ad v.l → PIn w a v.l → Calls Try.prog 11 #[vv v.key v.seq v.mkr v.data ad v.l.length c, vv v.key v.seq v.mkr v.data a v.l.length cap] w fun e w' => e = .returned (.bool true) ∧ Below w.heap.size w w' := fun w h1 h2 => by
    have := same_any v v w ad v.l.length c rfl h1 (by omega) a v.l.length cap rfl h2 (by omega)
    rw [sv_true rfl] at this
    exact this
  obtain ⟨key, seq, mkr, data, l⟩ := v
  simp only at hn hM hL hl hsm ⊢
  subst hn
  have hle : l.length + 1 ≤ c := by have := hM.le; simp at this; exact this
  have hr : ∀ w, (slP (.slice ad l.length c) none (some (.int .i64 ((l.length : Int) + 1))) none).run Try.prog w = .ok (.slice ad (l.length + 1) c) w := fun w => run_slP ad l.length c (l.length + 1) hle hM.max hM.nil w
  have b1 := (Below.refl w.heap.size w).alloc (Nat.le_refl _) (.cells #[str key, .int .i64 seq, .bool mkr, str data, .slice ad l.length c] 24)
  have b2 := b1.alloc b1.size (.cells #[str key, .int .i64 seq, .bool mkr, str data, .slice a l.length cap] 24)
  have z1 : Bv ((w.alloc (.cells #[str key, .int .i64 seq, .bool mkr, str data, .slice ad l.length c] 24)).alloc (.cells #[str key, .int .i64 seq, .bool mkr, str data, .slice a l.length cap] 24)) (w.heap.size + 1) (str key) (.int .i64 seq) (.bool mkr) (str data) (.slice a l.length cap) := by
    have := Bv.new (w.alloc (.cells #[str key, .int .i64 seq, .bool mkr, str data, .slice ad l.length c] 24)) (str key) (.int .i64 seq) (.bool mkr) (str data) (.slice a l.length cap)
    rw [World.size_alloc] at this
    exact this
  have hs2 := hsm _ (hM.head.at'.later b2) (hL.later b2)
  go_enter Try.func14, Try.ntmps14
  go_wp2_with fail
  generalize (w.alloc (.cells #[str key, .int .i64 seq, .bool mkr, str data, .slice ad l.length c] 24)).alloc (.cells #[str key, .int .i64 seq, .bool mkr, str data, .slice a l.length cap] 24) = W2 at *
  with_reducible refine Calls.mono hs2 ?_
  rintro e w3 ⟨rfl, b3⟩
  dsimp only
  have B3 := b2.trans (b3.mono b2.size)
  obtain ⟨q0, q1, q2, q3, q4, _⟩ := (z1.later b3).cells
  obtain ⟨b, off, rfl, hbl, c0, c1⟩ := (hM.later B3).at'.get l.length mk (by simp)
  have hlt : (l.length : Int) < (l.length : Int) + 1 := by omega
  have c0' : w3.cell? ⟨b, off + l.length * 2, none⟩ = some (.string ⟨#[109, 97, 114, 107]⟩) := c0
  clear hs2 hsm hr
  go_wp2_with fail
  go_ret
  exact ⟨rfl, B3⟩
end Go.Proofs.Ytahdndmmakdamaa
