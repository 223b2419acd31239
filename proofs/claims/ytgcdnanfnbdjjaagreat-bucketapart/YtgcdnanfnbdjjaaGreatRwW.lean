/- BucketRaw: the walk. -/
import Derived.Test.YtgcdnanfnbdjjaaGreatGa
import Derived.Test.YtgcdnanfnbdjjaaGreatGs
import Derived.Test.YtgcdnanfnbdjjaaGreatMdb
namespace Go.Proofs.YtgcdnanfnbdjjaaGreat
set_option linter.unusedVariables false
set_option linter.unusedSimpArgs false
open Go.RowKit
attribute [local go_sem ↓] Go.wp_at_zero Go.wp_at_succ
def Bo (w : World) (g : Nat) (a b c d e f : Value) : Prop := w.heap[g]? = some (.cells #[a, b, c, d, e, f] 34 (0, 0))
theorem Bo.cells {w : World} {g : Nat} {a b c d e f : Value} (h : Bo w g a b c d e f) : w.cell? ⟨g, 0, none⟩ = some a ∧ w.cell? ⟨g, 1, none⟩ = some b ∧ w.cell? ⟨g, 2, none⟩ = some c ∧ w.cell? ⟨g, 3, none⟩ = some d ∧ w.cell? ⟨g, 4, none⟩ = some e ∧ w.cell? ⟨g, 5, none⟩ = some f := by
  refine ⟨?_, ?_, ?_, ?_, ?_, ?_⟩
  all_goals rw [cell_of_row _ _ _ _ _ _ h]; rfl
theorem Bo.later {w w' : World} {g : Nat} {a b c d e f : Value} (h : Bo w g a b c d e f) (hb : Below w.heap.size w w') : Bo w' g a b c d e f := by
  have := hb.block g (lt_of_block h)
  unfold Bo at h ⊢
  rw [this]; exact h
theorem Bo.new (w : World) (a b c d e f : Value) : Bo (w.alloc (.cells #[a, b, c, d, e, f] 34)) w.heap.size a b c d e f := heap_alloc_new _ _
/-- what is kept -/
structure Kr (W w : World) (g0 g1 g2 : Nat) (next : Int) (L : List Vs) (a : Option Addr) (cap : Nat) (o : Op1) (ma : Option Addr) (mc : Nat) (a' : Option Addr) (c' : Nat) : Prop where
  b : Below W.heap.size W w
  zb : Bq w g0 (.int .i64 next) (.slice a L.length cap)
  zo : Bo w g1 (.int .i64 o.kind) (str o.key) (str o.data) (.slice ma o.l.length mc) (.int .i64 o.seq) (.int .i64 o.most)
  zc : Bq w g2 (.int .i64 next) (.slice a' L.length c')
  lb : Li w L a L.length cap
  lc : Li w L a' L.length c'
  s : Sl w ma mc o.l
theorem Kr.later {W w w' : World} {g0 g1 g2 : Nat} {next : Int} {L : List Vs} {a : Option Addr} {cap : Nat} {o : Op1} {ma : Option Addr} {mc : Nat} {a' : Option Addr} {c' : Nat} (h : Kr W w g0 g1 g2 next L a cap o ma mc a' c') (hb : Below w.heap.size w w') : Kr W w' g0 g1 g2 next L a cap o ma mc a' c' :=
  ⟨h.b.trans (hb.mono h.b.size), h.zb.later hb, h.zo.later hb, h.zc.later hb, h.lb.later hb, h.lc.later hb, h.s.later hb⟩
end Go.Proofs.YtgcdnanfnbdjjaaGreat
