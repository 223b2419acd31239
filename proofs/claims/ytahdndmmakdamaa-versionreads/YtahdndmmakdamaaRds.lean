/- VersionReads: the walk. -/
import Derived.Test.YtahdndmmakdamaaQd
namespace Go.Proofs.Ytahdndmmakdamaa
set_option linter.unusedVariables false
set_option linter.unusedSimpArgs false
open Go.RowKit
attribute [local go_sem ↓] Go.wp_at_zero Go.wp_at_succ
theorem qread_some {b : List UInt8} {v : Vs} (h : rdV b = some v) (hb : b.length ≤ 9223372036854775807) (w : World) :
    Calls Try.prog 15 #[str b] w fun e w' => ∃ a cap, e = .returned (.tuple #[vv v.key v.seq v.mkr v.data a v.l.length cap, .int .i64 0]) ∧ Ow w.heap.size w' (.slice a v.l.length cap) v.l ∧ Below w.heap.size w w' := by
  have := qRead_any b w hb
  rw [h] at this
  refine this.mono ?_
  rintro e w' ⟨hB, a, n, cap, he, hn, ho⟩
  subst hn
  exact ⟨a, cap, he, ho, hB⟩
theorem qread_none {b : List UInt8} (h : rdV b = none) (hb : b.length ≤ 9223372036854775807) (w : World) :
    Calls Try.prog 15 #[str b] w fun e w' => e = .returned (.tuple #[vv [] 0 false [] none 0 0, .int .i64 4]) ∧ Below w.heap.size w w' := by
  have := qRead_any b w hb
  rw [h] at this
  refine this.mono ?_
  rintro e w' ⟨hB, he⟩
  exact ⟨he, hB⟩
set_option maxRecDepth 100000 in
set_option maxHeartbeats 4000000 in
theorem versionReads_walk (b : List UInt8) (W : World) (hb : b.length ≤ 140737488351232) :
    Calls Try.prog 7 #[str b] W fun e W' => e = .returned (.bool true) ∧ Below W.heap.size W W' := by
  have hb0 : b.length ≤ 9223372036854775807 := by omega
  cases hR : rdV b with
  | none =>
    have h1 := read_none hR hb0
    have h2 := qread_none hR hb0
    have hsm : ∀ w, Calls Try.prog 11 #[vv [] 0 false [] none 0 0, vv [] 0 false [] none 0 0] w fun e w' => e = .returned (.bool true) ∧ Below w.heap.size w w' := fun w => by
      have := same_any ⟨[], 0, false, [], []⟩ ⟨[], 0, false, [], []⟩ w none 0 0 rfl ⟨fun k p hk => by simp at hk⟩ (by simp) none 0 0 rfl ⟨fun k p hk => by simp at hk⟩ (by simp)
      rw [sv_true rfl] at this
      exact this
    clear hR
    go_enter Try.func7, Try.ntmps7
    go_wp2_with fail
    with_reducible refine Calls.mono (h1 _) ?_
    rintro e w1 ⟨rfl, b1⟩
    dsimp only
    have x1 := Bv.new w1 (.string ⟨#[]⟩) (.int .i64 0) (.bool false) (.string ⟨#[]⟩) (.slice none 0 0)
    have B1 := b1.alloc b1.size (.cells #[.string ⟨#[]⟩, .int .i64 0, .bool false, .string ⟨#[]⟩, .slice none 0 0] 24)
    clear h1 b1
    go_wp2_with fail
    generalize w1.alloc (.cells #[.string ⟨#[]⟩, .int .i64 0, .bool false, .string ⟨#[]⟩, .slice none 0 0] 24) = W1 at *
    generalize w1.heap.size = g1 at *
    with_reducible refine Calls.mono (h2 _) ?_
    rintro e w2 ⟨rfl, b2⟩
    dsimp only
    have x2 := x1.later b2
    have B2 := B1.trans (b2.mono B1.size)
    have y2 := Bv.new w2 (.string ⟨#[]⟩) (.int .i64 0) (.bool false) (.string ⟨#[]⟩) (.slice none 0 0)
    have bz := (Below.refl w2.heap.size w2).alloc (Nat.le_refl _) (.cells #[.string ⟨#[]⟩, .int .i64 0, .bool false, .string ⟨#[]⟩, .slice none 0 0] 24)
    have x3 := x2.later bz
    have B3 := B2.trans (bz.mono B2.size)
    clear h2 b2 x1 B1 B2 x2 bz
    obtain ⟨p0, p1, p2, p3, p4, _⟩ := x3.cells
    obtain ⟨q0, q1, q2, q3, q4, _⟩ := y2.cells
    go_wp2_with fail
    generalize w2.alloc (.cells #[.string ⟨#[]⟩, .int .i64 0, .bool false, .string ⟨#[]⟩, .slice none 0 0] 24) = W3 at *
    with_reducible refine Calls.mono (hsm _) ?_
    rintro e w4 ⟨rfl, b4⟩
    dsimp only
    have B4 := B3.trans (b4.mono B3.size)
    clear p0 p1 p2 p3 p4 q0 q1 q2 q3 q4 x3 y2 B3 b4
    go_wp2_with fail
    with_reducible refine Calls.mono (first_any _) ?_
    rintro e w5 ⟨rfl, b5⟩
    dsimp only
    go_wp2_with fail
    go_ret
    exact ⟨rfl, B4.trans (b5.mono B4.size)⟩
  | some V =>
    have h1 := read_some hR hb0
    have h2 := qread_some hR hb0
    have hVl := (rt_of (rdV_some hR).1).n
    have hsm : ∀ w a c a' c', PIn w a V.l → PIn w a' V.l → Calls Try.prog 11 #[vv V.key V.seq V.mkr V.data a V.l.length c, vv V.key V.seq V.mkr V.data a' V.l.length c'] w fun e w' => e = .returned (.bool true) ∧ Below w.heap.size w w' := fun w a c a' c' g1 g2 => by
      have := same_any V V w a V.l.length c rfl g1 (by omega) a' V.l.length c' rfl g2 (by omega)
      rw [sv_true rfl] at this
      exact this
    obtain ⟨xk, xs, xm, xd, xl⟩ := V
    simp only at h1 h2 hsm
    clear hR hVl
    go_enter Try.func7, Try.ntmps7
    go_wp2_with fail
    with_reducible refine Calls.mono (h1 _) ?_
    rintro e w1 ⟨a1, c1, rfl, o1, b1⟩
    dsimp only
    have x1 := Bv.new w1 (str xk) (.int .i64 xs) (.bool xm) (str xd) (.slice a1 xl.length c1)
    have bz := (Below.refl w1.heap.size w1).alloc (Nat.le_refl _) (.cells #[str xk, .int .i64 xs, .bool xm, str xd, .slice a1 xl.length c1] 24)
    have B1 := b1.trans (bz.mono b1.size)
    have p1 := o1.asSl.at'.later bz
    clear h1 b1 bz o1
    go_wp2_with fail
    generalize w1.alloc (.cells #[str xk, .int .i64 xs, .bool xm, str xd, .slice a1 xl.length c1] 24) = W1 at *
    generalize w1.heap.size = g1 at *
    with_reducible refine Calls.mono (h2 _) ?_
    rintro e w2 ⟨a2, c2, rfl, o2, b2⟩
    dsimp only
    have y2 := Bv.new w2 (str xk) (.int .i64 xs) (.bool xm) (str xd) (.slice a2 xl.length c2)
    have bz := (Below.refl w2.heap.size w2).alloc (Nat.le_refl _) (.cells #[str xk, .int .i64 xs, .bool xm, str xd, .slice a2 xl.length c2] 24)
    have b2z := below_seq b2 bz
    have x3 := x1.later b2z
    have P1 := p1.later b2z
    have P2 := o2.asSl.at'.later bz
    have B3 := B1.trans (b2z.mono B1.size)
    clear h2 b2 x1 B1 bz b2z p1 o2
    obtain ⟨p0, p1, p2, p3, p4, _⟩ := x3.cells
    obtain ⟨q0, q1, q2, q3, q4, _⟩ := y2.cells
    go_wp2_with fail
    generalize w2.alloc (.cells #[str xk, .int .i64 xs, .bool xm, str xd, .slice a2 xl.length c2] 24) = W3 at *
    with_reducible refine Calls.mono (hsm _ _ _ _ _ P1 P2) ?_
    rintro e w4 ⟨rfl, b4⟩
    dsimp only
    have B4 := B3.trans (b4.mono B3.size)
    clear p0 p1 p2 p3 p4 q0 q1 q2 q3 q4 x3 y2 B3 b4
    go_wp2_with fail
    with_reducible refine Calls.mono (first_any _) ?_
    rintro e w5 ⟨rfl, b5⟩
    dsimp only
    go_wp2_with fail
    go_ret
    exact ⟨rfl, B4.trans (b5.mono B4.size)⟩
end Go.Proofs.Ytahdndmmakdamaa
