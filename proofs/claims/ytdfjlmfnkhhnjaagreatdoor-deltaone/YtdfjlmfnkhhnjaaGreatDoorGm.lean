import Derived.Test.YtdfjlmfnkhhnjaaGreatDoorGl
/- The document's right item, its bytes. -/
namespace Go.Proofs.YtdfjlmfnkhhnjaaGreatDoor
set_option maxRecDepth 100000
set_option linter.unusedVariables false
set_option linter.unusedSimpArgs false
open Go.RowKit
open Go.Proofs.YtdfjlmfnkhhnjaaGreatDoorH (hv hv_length hv_one hv_eq)
/-- a box with an item of the document's -/
def Bj (w : World) (g : Nat) (x : It) (a : Option Addr) (c : Nat) : Prop := w.heap[g]? = some (.cells (ic x a c).toArray 81 (0, 0))
theorem Bj.new (w : World) (x : It) (a : Option Addr) (c : Nat) : Bj (w.alloc (.cells (ic x a c).toArray 81)) w.heap.size x a c := heap_alloc_new _ _
theorem Bj.lt {w : World} {g : Nat} {x : It} {a : Option Addr} {c : Nat} (h : Bj w g x a c) : g < w.heap.size := (Array.getElem?_eq_some_iff.1 h).1
theorem Bj.later {w w' : World} {g : Nat} {x : It} {a : Option Addr} {c : Nat} (h : Bj w g x a c) (hb : Below w.heap.size w w') : Bj w' g x a c := by
  have := hb.block g h.lt
  unfold Bj at h ⊢
  rw [this]; exact h
theorem Bj.cells {w : World} {g : Nat} {x : It} {a : Option Addr} {c : Nat} (h : Bj w g x a c) : w.cell? ⟨g, 0, none⟩ = some (str x.key) ∧ w.cell? ⟨g, 1, none⟩ = some (.int .i64 x.seq) ∧ w.cell? ⟨g, 2, none⟩ = some (.bool x.mkr) ∧ w.cell? ⟨g, 3, none⟩ = some (.int .i64 x.size) ∧ w.cell? ⟨g, 4, none⟩ = some (.slice a x.l.length c) := by
  obtain ⟨h0, h1, h2, h3, h4⟩ := ic_get x a c
  refine ⟨?_, ?_, ?_, ?_, ?_⟩
  · rw [cell_of_row _ _ _ _ _ _ h, List.getElem?_toArray]; exact h0
  · rw [cell_of_row _ _ _ _ _ _ h, List.getElem?_toArray]; exact h1
  · rw [cell_of_row _ _ _ _ _ _ h, List.getElem?_toArray]; exact h2
  · rw [cell_of_row _ _ _ _ _ _ h, List.getElem?_toArray]; exact h3
  · rw [cell_of_row _ _ _ _ _ _ h, List.getElem?_toArray]; exact h4
def Bn3 (w : World) (g : Nat) (s n : Int) (v : Value) : Prop := w.heap[g]? = some (.cells #[.int .i64 s, .int .i64 n, v] 38 (0, 0))
theorem Bn3.new (w : World) (s n : Int) (v : Value) : Bn3 (w.alloc (.cells #[.int .i64 s, .int .i64 n, v] 38)) w.heap.size s n v := heap_alloc_new _ _
theorem Bn3.lt {w : World} {g : Nat} {s n : Int} {v : Value} (h : Bn3 w g s n v) : g < w.heap.size := (Array.getElem?_eq_some_iff.1 h).1
theorem Bn3.later {w w' : World} {g : Nat} {s n : Int} {v : Value} (h : Bn3 w g s n v) (hb : Below w.heap.size w w') : Bn3 w' g s n v := by
  have := hb.block g h.lt
  unfold Bn3 at h ⊢
  rw [this]; exact h
theorem Bn3.cells {w : World} {g : Nat} {s n : Int} {v : Value} (h : Bn3 w g s n v) : w.cell? ⟨g, 0, none⟩ = some (.int .i64 s) ∧ w.cell? ⟨g, 1, none⟩ = some (.int .i64 n) ∧ w.cell? ⟨g, 2, none⟩ = some v := by
  refine ⟨?_, ?_, ?_⟩
  all_goals rw [cell_of_row _ _ _ _ _ _ h]; rfl
noncomputable def ldQ (v : Value) : Sem Value := Instr.loadAt 81 v
theorem ldQe (v : Value) : Instr.loadAt 81 v = ldQ v := rfl
noncomputable def stQ (p v : Value) : Sem Unit := Instr.storeAt 81 p v
theorem stQe (p v : Value) : Instr.storeAt 81 p v = stQ p v := rfl
theorem Bj.range {w : World} {g : Nat} {x : It} {a : Option Addr} {c : Nat} (h : Bj w g x a c) : w.rangeAt g 0 (ic x a c) := fun j v hv => by
  rw [Nat.zero_add, cell_of_row _ _ _ _ _ _ h, List.getElem?_toArray]; exact hv
attribute [local go_sem ↓] Go.wp_at_zero Go.wp_at_succ
end Go.Proofs.YtdfjlmfnkhhnjaaGreatDoor

/- The document's bytes of an item. -/
namespace Go.Proofs.YtdfjlmfnkhhnjaaGreatDoor
set_option maxRecDepth 100000
set_option linter.unusedVariables false
set_option linter.unusedSimpArgs false
open Go.RowKit
attribute [local go_sem ↓] Go.wp_at_zero Go.wp_at_succ
end Go.Proofs.YtdfjlmfnkhhnjaaGreatDoor
