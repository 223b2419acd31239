import Derived.Test.YtdfjlmfnkhhnjaaGreatDoorQe
import Derived.Test.YtdfjlmfnkhhnjaaGreatDoorGh
import Derived.Deep.DeepAppendWide
import Derived.Deep.AppendLies
import Derived.Test.YtdfjlmfnkhhnjaaGreatDoorGr
set_option maxRecDepth 100000
set_option linter.unusedVariables false
set_option linter.unusedSimpArgs false
namespace Go.Proofs.YtdfjlmfnkhhnjaaGreatDoor
section
open Go.Proofs.YtdfjlmfnkhhnjaaGreatDoorP (recd Rd key nn LEN)
open Go.Proofs.YtdfjlmfnkhhnjaaGreatDoorH (hexL rootOf)
end
section
open Go.RowKit
open Stk (Rv rcs rcells rcells_append rcells_length rcells_get rcells_one infoV)
attribute [local go_sem ↓] Go.wp_at_zero Go.wp_at_succ Go.Proofs.YtdfjlmfnkhhnjaaGreatDoorP.sl9
def B5v (w : World) (g : Nat) (key : List UInt8) (seq : Int) (mkr : Bool) (data : List UInt8) (m : Value) : Prop:=w.heap[g]? = some (.cells #[str key,.int .i64 seq,.bool mkr,str data,m] 62 (0,0))
theorem B5v.new (w : World) (key : List UInt8) (seq : Int) (mkr : Bool) (data : List UInt8) (m : Value) : B5v (w.alloc (.cells #[str key,.int .i64 seq,.bool mkr,str data,m] 62)) w.heap.size key seq mkr data m:=heap_alloc_new _ _
theorem B5v.lt {w : World} {g : Nat} {key : List UInt8} {seq : Int} {mkr : Bool} {data : List UInt8} {m : Value} (h : B5v w g key seq mkr data m) : g < w.heap.size:=lt_of_block h
theorem B5v.later {w w' : World} {g : Nat} {key : List UInt8} {seq : Int} {mkr : Bool} {data : List UInt8} {m : Value} (h : B5v w g key seq mkr data m) (hb : Below w.heap.size w w') : B5v w' g key seq mkr data m:=(hb.block g h.lt).trans h
theorem B5v.cells {w : World} {g : Nat} {key : List UInt8} {seq : Int} {mkr : Bool} {data : List UInt8} {m : Value} (h : B5v w g key seq mkr data m) : w.cell? ⟨g,0,none⟩ = some (str key) ∧ w.cell? ⟨g,1,none⟩ = some (.int .i64 seq) ∧ w.cell? ⟨g,2,none⟩ = some (.bool mkr) ∧ w.cell? ⟨g,3,none⟩ = some (str data) ∧ w.cell? ⟨g,4,none⟩ = some m:=by
 refine ⟨?_,?_,?_,?_,?_⟩ <;> (rw [cell_of_row _ _ _ _ _ _ h]; rfl)
theorem B5v.fz {w : World} {g : Nat} {key : List UInt8} {seq : Int} {mkr : Bool} {data : List UInt8} {m : Value} (h : B5v w g key seq mkr data m) (j : Nat) : w.frozen? ⟨g,j,none⟩ = false:=frozen_of_row _ _ _ _ _ h
theorem B5v.set3 {w : World} {g : Nat} {key : List UInt8} {seq : Int} {mkr : Bool} {data : List UInt8} {m : Value} (h : B5v w g key seq mkr data m) (d : List UInt8) : B5v (w.setCell ⟨g,3,none⟩ (str d)) g key seq mkr d m:=by unfold B5v; rw [heap_setCell_same _ _ _ _ _ _ h]; rfl
theorem B5v.set4 {w : World} {g : Nat} {key : List UInt8} {seq : Int} {mkr : Bool} {data : List UInt8} {m : Value} (h : B5v w g key seq mkr data m) (m' : Value) : B5v (w.setCell ⟨g,4,none⟩ m') g key seq mkr data m':=by unfold B5v; rw [heap_setCell_same _ _ _ _ _ _ h]; rfl
end
section
open Go.ChangeShapes Go.WideShapes Go.ChangeAt Go.RowKit
end
end Go.Proofs.YtdfjlmfnkhhnjaaGreatDoor
