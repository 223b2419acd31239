import Derived.Test.YtdfjlmfnkhhnjaaGreatDoorGb
import Derived.OwnWalk
import Derived.Deep.AppendLies
import Derived.Laws.OwnMore
import Derived.Lib.AppendStr
/- The reference: the turn to the right, and the 64 numbers of a block. -/
namespace Go.Proofs.YtdfjlmfnkhhnjaaGreatDoorH
set_option maxRecDepth 100000
set_option linter.unusedVariables false
set_option linter.unusedSimpArgs false
open Go.RowKit
def RW (w : World) (f : Nat → UInt8) (k : Nat) (wr : World) : Prop :=
  Below w.heap.size w wr ∧ wr.heap[w.heap.size]? = some (.cells (pw f 0) 172 (0, 0)) ∧ wr.heap[w.heap.size + 1]? = some (.cells (pw f k) 172 (0, 0))
theorem RW.set {w : World} {f : Nat → UInt8} {k : Nat} {wr : World} (h : RW w f k wr) (hk : k < 64) {B : Nat} (hB : w.heap.size = B) {q : Int} (hq : q = ((Sha.wt f k).toNat : Int)) : RW w f (k + 1) ((wr.setCell ⟨B + 1, k, none⟩ (.int .u32 q)).drew) := by
  subst hB hq
  obtain ⟨a, c, d⟩ := h
  refine ⟨(a.setCell (by show w.heap.size ≤ w.heap.size + 1; omega) _).drew, ?_, ?_⟩
  · rw [heap_drew, Below.heap_setCell _ _ _ _ (by show w.heap.size ≠ w.heap.size + 1; omega), c]
  · rw [heap_drew, cell_set _ _ _ _ _ _ d, pw_set f k hk]
attribute [local go_sem] xo_bv ad_bv sr3_bv sr10_bv
attribute [local go_sem ↓] Go.wp_at_zero Go.wp_at_succ
end Go.Proofs.YtdfjlmfnkhhnjaaGreatDoorH

/- The reference: the padded text. -/
namespace Go.Proofs.YtdfjlmfnkhhnjaaGreatDoorH
set_option maxRecDepth 100000
set_option linter.unusedVariables false
set_option linter.unusedSimpArgs false
open Go.RowKit
theorem info5f : (Tryz.prog.info? 5).map (fun i => (i.zero, i.size, i.bytes)) = some (some (.int .u8 0), 1, 1) := by kernel_rfl
theorem vals_append (a b : List UInt8) : vals (a ++ b) = vals a ++ vals b := List.map_append ..
theorem below_grow {w wr w2 : World} {v : Value} {o : Obj} {k : Nat} {xs : List Value} (hbr : Below w.heap.size w wr) (hown : wr.ownsRow w.heap.size 5 1 v k xs) (hg : (wr.alloc o).grownBy w2 v.ownBlock) : Below w.heap.size w w2 :=
  (hbr.alloc hbr.size _).grown hg (by have := hbr.size; simp; omega) (fun k0 hk0 => (hown.lt k0 hk0).1)
def zs (n j : Nat) (m : List UInt8) : List UInt8 := m ++ 128 :: List.replicate j 0
end Go.Proofs.YtdfjlmfnkhhnjaaGreatDoorH
