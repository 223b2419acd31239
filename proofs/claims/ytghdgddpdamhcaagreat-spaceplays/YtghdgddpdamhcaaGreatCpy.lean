/- Copy. -/
import Derived.Test.YtghdgddpdamhcaaGreatStl
import Derived.Lib.SliceRun
namespace Go.Proofs.YtghdgddpdamhcaaGreat
set_option linter.unusedVariables false
set_option linter.unusedSimpArgs false
open Go.RowKit
theorem own_mono {w : World} {base base' : Nat} {e : TypeId} {size : Nat} {v : Value} {n : Nat} {xs : List Value} (h : w.ownsRow base e size v n xs) (hb : base' ≤ base) : w.ownsRow base' e size v n xs :=
  ⟨h.1, h.2.imp id fun ⟨g, cap, cur, h1, h2, h3⟩ => ⟨g, cap, cur, h1, Nat.le_trans hb h2, h3⟩⟩
theorem qS (w : World) (a : Option Addr) (n c n' c' : Nat) : (binOp .eql 88 (.slice a n c) (.slice none n' c')).run Tryz.prog w = .ok (.bool a.isNone) w := Lib.run_eql_slice_nil w _ _ a n c n' c' Tryz.underlying88
theorem qW (w : World) (a : Option Addr) (n c n' c' : Nat) : (binOp .eql 85 (.slice a n c) (.slice none n' c')).run Tryz.prog w = .ok (.bool a.isNone) w := Lib.run_eql_slice_nil w _ _ a n c n' c' Tryz.underlying85
theorem own_below {w w' : World} {base : Nat} {e : TypeId} {size : Nat} {v : Value} {n : Nat} {xs : List Value} (h : w.ownsRow base e size v n xs) (b : Below w.heap.size w w') : w'.ownsRow base e size v n xs := (Fr.of_below (S := fun _ => False) b).own h (fun _ _ e => e)
/-- while a copy is made -/
structure CI (w : World) (D : Dk) (st : St) (cs : Array Value) (A : World) : Prop where
  raw : Raw A D st.safe.length st.seen st.safe st.pend st.off st.opn st.fall
  blk : A.heap[w.heap.size]? = some (.cells cs 90 (0, 0))
  bel : Below w.heap.size w A
  nf : ¬ D.foot w.heap.size
section
variable {w A A' : World} {D : Dk} {st : St} {cs : Array Value}
theorem CI.below (h : CI w D st cs A) (b : Below A.heap.size A A') : CI w D st cs A' := ⟨h.raw.below b, (b.block _ (heap_lt h.blk)).trans h.blk, h.bel.trans (b.mono h.bel.size), h.nf⟩
theorem CI.set (h : CI w D st cs A) (j : Nat) (v : Value) : CI w D st (cs.setIfInBounds j v) (A.setCell ⟨w.heap.size, j, none⟩ v) := ⟨h.raw.other _ _ _ h.nf, cell_set _ _ _ _ _ _ h.blk, h.bel.setCell (Nat.le_refl _) _, h.nf⟩
theorem CI.lt (h : CI w D st cs A) : w.heap.size < A.heap.size := heap_lt h.blk
theorem CI.row (h : CI w D st cs A) (j : Nat) (v : Value) {e : TypeId} {size : Nat} {u : Value} {n : Nat} {xs : List Value} (o : A.ownsRow 0 e size u n xs) (hk : ∀ k, u.ownBlock = some k → w.heap.size < k) : (A.setCell ⟨w.heap.size, j, none⟩ v).ownsRow 0 e size u n xs :=
  (fr_set (S := fun k => k = w.heap.size) A _ j v rfl).own o (fun k h1 e => by have := hk k h1; omega)
end
end Go.Proofs.YtghdgddpdamhcaaGreat
