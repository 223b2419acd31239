/- Rows of bytes of one's own; what an append does to them. -/
import Derived.Test.YtgcdnanfnbdjjaaGreatBase
import Derived.OwnWalk
import Derived.Deep.AppendLies
import Derived.Deep.DeepAppendWide
import Derived.Laws.OwnMore
import Derived.Lib.AppendStr
import Derived.Laws.IdiomStrings
namespace Go.Proofs.YtgcdnanfnbdjjaaGreat
set_option linter.unusedVariables false
set_option linter.unusedSimpArgs false
open Go.RowKit
def vals (l : List UInt8) : List Value := l.map fun b => Value.int .u8 b.toNat
theorem vals_append (a b : List UInt8) : vals (a ++ b) = vals a ++ vals b := List.map_append ..
theorem vals_length (a : List UInt8) : (vals a).length = a.length := List.length_map ..
theorem vals_str (l : List UInt8) : Lib.strCells ⟨l.toArray⟩ = vals l := by simp [Lib.strCells, vals]
theorem info5f : (Tryz.prog.info? 5).map (fun i => (i.zero, i.size, i.bytes)) = some (some (.int .u8 0), 1, 1) := by kernel_rfl
theorem info5 : ∃ i, Tryz.prog.info? 5 = some i ∧ i.zero = some (.int .u8 0) ∧ i.size = 1 ∧ i.bytes = 1 := by
  have := info5f
  cases hq : Tryz.prog.info? 5 with
  | none => rw [hq] at this; cases this
  | some i => rw [hq] at this; simp at this; exact ⟨i, rfl, this.1, this.2.1, this.2.2⟩
theorem below_seq {w w1 w2 : World} (a : Below w.heap.size w w1) (b : Below w1.heap.size w1 w2) : Below w.heap.size w w2 := a.trans (b.mono a.size)
/-- a row of bytes of its own, made behind 'base' -/
structure Ob (base : Nat) (w : World) (v : Value) (L : List UInt8) : Prop where
  own : w.ownsRow base 5 1 v L.length (vals L)
  le : base ≤ w.heap.size
theorem Ob.nil (w : World) (base : Nat) (h : base ≤ w.heap.size) : Ob base w (.slice none 0 0) [] := ⟨World.ownsRow_nil _ _ _ _, h⟩
theorem Ob.alloc {base : Nat} {w : World} {v : Value} {L : List UInt8} (h : Ob base w v L) (o : Obj) : Ob base (w.alloc o) v L := ⟨h.own.alloc o, by have := h.le; simp; omega⟩
theorem Ob.drew {base : Nat} {w : World} {v : Value} {L : List UInt8} (h : Ob base w v L) : Ob base w.drew v L := ⟨h.own.drew, h.le⟩
theorem Ob.drewN {base : Nat} {w : World} {v : Value} {L : List UInt8} (h : Ob base w v L) (n : Nat) : Ob base (w.drewN n) v L := ⟨h.own, h.le⟩
theorem grown_below {base : Nat} {w w' : World} {v : Value} {n : Nat} {e : TypeId} {size : Nat} {xs : List Value} (hown : w.ownsRow base e size v n xs) (hle : base ≤ w.heap.size) (hg : w.grownBy w' v.ownBlock) : Below base w w' :=
  (Below.refl _ _).grown hg hle (fun k0 hk0 => (hown.lt k0 hk0).1)
/-- later, when nothing that lay there has changed -/
theorem own_later {base : Nat} {w w' : World} {v : Value} {n : Nat} {e : TypeId} {size : Nat} {xs : List Value} (hown : w.ownsRow base e size v n xs) (hb : Below w.heap.size w w') : w'.ownsRow base e size v n xs := by
  refine ⟨hown.1, ?_⟩
  rcases hown.2 with h | ⟨g, cap, cur, h1, h2, h3, h4⟩
  · exact Or.inl h
  · refine Or.inr ⟨g, cap, cur, h1, h2, ?_, h4⟩
    rw [hb.block g (by rcases Nat.lt_or_ge g w.heap.size with q | q
                       · exact q
                       · rw [Array.getElem?_eq_none q] at h3; cases h3)]
    exact h3
theorem Ob.later {base : Nat} {w w' : World} {v : Value} {L : List UInt8} (h : Ob base w v L) (hb : Below w.heap.size w w') : Ob base w' v L := ⟨own_later h.own hb, Nat.le_trans h.le hb.size⟩
end Go.Proofs.YtgcdnanfnbdjjaaGreat
