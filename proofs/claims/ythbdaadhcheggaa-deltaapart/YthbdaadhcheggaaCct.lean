/- Concat of three lists of versions. -/
import Derived.Test.YthbdaadhcheggaaBq
import Derived.Test.YthbdaadhcheggaaRun
namespace Go.Proofs.Ythbdaadhcheggaa
set_option linter.unusedVariables false
set_option linter.unusedSimpArgs false
open Go.RowKit
attribute [local go_sem ↓] Go.wp_at_zero Go.wp_at_succ
attribute [local go_sem ↓] slVe
/-- a row of versions of one's own; whose the pairs' rows are is not told -/
structure Ro (base : Nat) (w : World) (v : Value) (R : List Rv) : Prop where
  own : w.ownsRow base 41 5 v R.length (rcells R)
  le : base ≤ w.heap.size
theorem Fo.ro {base : Nat} {w : World} {v : Value} {R : List Rv} (h : Fo base w v R) : Ro base w v R := ⟨h.own, h.le⟩
theorem Ro.later {base : Nat} {w w' : World} {v : Value} {R : List Rv} (h : Ro base w v R) (hb : Below w.heap.size w w') : Ro base w' v R := ⟨own_same h.own (fun g hg => hb.block g (h.own.lt g hg).2), Nat.le_trans h.le hb.size⟩
theorem Ro.nil (w : World) (base : Nat) (h : base ≤ w.heap.size) : Ro base w (.slice none 0 0) [] := ⟨World.ownsRow_nil _ _ _ _, h⟩
theorem Ro.sl {base : Nat} {w : World} {v : Value} {R : List Rv} (h : Ro base w v R) : ∃ a c, v = .slice a R.length c := by
  rcases h.own.2 with ⟨rfl, h0⟩ | ⟨g, cap, cur, rfl, _⟩
  · exact ⟨none, 0, by rw [h0]⟩
  · exact ⟨_, cap, rfl⟩
/-- a list laid behind a row -/
theorem run_ros {W : World} {base b2 : Nat} {v : Value} {R R2 : List Rv} (ty : TypeId) {ad : Option Addr} {n c : Nat} (f1 : Ro base W v R) (k1 : Ro b2 W (.slice ad n c) R2) (hn : R.length + R2.length ≤ 1954687338260) :
    ∃ v' w', (Builtin.append_ #[22, 22] ty #[v, .slice ad n c]).run Try.prog W = .ok v' w' ∧ Ro base w' v' (R ++ R2) ∧ Below base W w' := by
  obtain ⟨i0, hi0, hz0, hz1, hz2⟩ := infoV
  have hmx : maxLen = 9223372036854775807 := rfl
  rcases k1.own.2 with ⟨e, h0⟩ | ⟨g, cap, cur, e, hg, hc, g1, g2, g3, g4⟩
  · injection e with e1 e2 e3
    subst e1 e2 e3
    have hq : R2 = [] := List.eq_nil_of_length_eq_zero h0
    subst hq
    exact ⟨v, W, run_append_owned_none (P := Try.prog) W base 22 ty 41 i0 5 Try.underlying22 hi0 _ R.length (rcells R) f1.own, by simpa using f1, Below.refl _ _⟩
  · injection e with e1 e2 e3
    subst e1 e2 e3
    have hcells : ∀ j u, (rcells R2)[j]? = some u → W.cell? ((⟨g, 0, none⟩ : Addr).add j) = some u := fun j u hj => by
      rw [addr_add, Nat.zero_add]
      have := rcells_length R2
      have hlt := (List.getElem?_eq_some_iff.1 hj).1
      rw [k1.own.cellAt j (by omega)]
      exact hj
    rcases Nat.eq_zero_or_pos R2.length with h0 | h0
    · have hq : R2 = [] := List.eq_nil_of_length_eq_zero h0
      subst hq
      obtain ⟨v', w', hr, hown, hgrow, _⟩ := run_append_own_wide (P := Try.prog) (w := W) base 22 ty 41 i0 _ 5 72 Try.underlying22 hi0 hz0 hz1 hz2 rfl (by omega) v R.length (rcells R) f1.own ⟨g, 0, none⟩ 0 c [] rfl (by simp) (by simp) (by rw [hmx]; omega) (by omega) f1.le
      exact ⟨v', w', hr, ⟨by simpa using hown, Nat.le_trans f1.le hgrow.size⟩, grown_below f1.own f1.le hgrow⟩
    · obtain ⟨gg, cap2, w', hr, hown, hgrow, hat, hlt⟩ := run_append_lies (P := Try.prog) (w := W) 22 ty base 41 i0 _ 5 72 Try.underlying22 hi0 hz0 hz1 hz2 rfl (by omega) v R.length (rcells R) f1.own ⟨g, 0, none⟩ R2.length c (rcells R2) (rcells_length R2) hcells (rcells_one R2) h0 (by rw [hmx]; omega) (by omega) f1.le _ rfl
      refine ⟨_, w', hr, ⟨?_, Nat.le_trans f1.le hgrow.size⟩, grown_below f1.own f1.le hgrow⟩
      rw [rcells_append, List.length_append]; exact hown
abbrev zV : Value := .agg #[.string ⟨#[]⟩, .int .i64 0, .bool false, .string ⟨#[]⟩, .slice none 0 0]
theorem zc_sizeV (m : Nat) : (Builtin.zeroCells zV.cells m).size = m * 5 := by
  rw [size_zeroCells]; rfl
theorem run_growV (w : World) (ty : TypeId) (m : Nat) (h0 : 0 < m) (hm : m ≤ 1954687338260) :
    ∃ cap, m ≤ cap ∧ cap ≤ 9223372036854775807 ∧ (Builtin.append_ #[22, 3] ty #[.slice none 0 0, .int .i64 (m : Int)]).run Try.prog w = .ok (.slice (some ⟨w.heap.size, 0, none⟩) m cap) (w.drew.alloc (.cells (Builtin.zeroCells zV.cells m ++ Builtin.zeroCells zV.cells (cap - m)) 41)) := by
  obtain ⟨i0, hi0, hz0, hz1, hz2⟩ := infoV
  have hw : IntKind.i64.wrap (m : Int) = (m : Int) := by rw [IntKind.wrap_i64]; omega
  refine ⟨grownCap w m 0 41, grownCap_ge w m 0 41, grownCap_le_maxLen w _ _ _ (by show _ ≤ 9223372036854775807; omega), ?_⟩
  have hn : m ≠ 0 := by omega
  have h63' : ¬ (9223372036854775807 < (m : Int)) := by omega
  have hneg : ¬ ((m : Int) < 0) := by omega
  have h48' : ¬ (281474976710656 < Builtin.nextslicecap m 0 * 72) := by rw [nextslicecap_zero h0]; omega
  have hbig : ¬ ((281474976710656 : Int) < m * 72) := by omega
  have hn2 : m * 5 ≠ 0 := by omega
  simp [Builtin.append_, run_underlying Try.underlying22, run_underlying Try.underlying3, sizeOf, typeInfo, zeroValue, hi0, hz0, Builtin.lenOf, hn, h63', h48', Question.forced, run_firstCells_none, newRow, grownCap, asInt, asIntOf, hw, hneg, hbig, Builtin.firstCells, hz1, hz2, hn2]
end Go.Proofs.Ythbdaadhcheggaa
