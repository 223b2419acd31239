/- The numbers that are kept, as a set. -/
import Derived.Test.YtghdgddpdamhcaaGreatFlu
import Derived.Maps.OwnSet
import Derived.Maps.OwnOps
namespace Go.Proofs.YtghdgddpdamhcaaGreat
set_option linter.unusedVariables false
set_option linter.unusedSimpArgs false
open Go.RowKit Go.Maps
/-- the list that a slice of integers holds -/
structure IIn (w : World) (a : Option Addr) (zs : List Int) : Prop where
  get : ∀ (k : Nat) z, zs[k]? = some z → ∃ b off, a = some ⟨b, off, none⟩ ∧ b < w.heap.size ∧ w.cell? ⟨b, off + k, none⟩ = some (.int .i64 z) ∧ -9223372036854775808 ≤ z ∧ z ≤ 9223372036854775807
theorem IIn.nil (w : World) (a : Option Addr) : IIn w a [] := ⟨fun k z h => by simp at h⟩
theorem IIn.below {w w' : World} {a : Option Addr} {zs : List Int} {B : Nat} (h : IIn w a zs) (hb : Below B w w') (hB : ∀ b off, a = some ⟨b, off, none⟩ → b < w.heap.size → b < B) : IIn w' a zs := ⟨fun k z hk => by
  obtain ⟨b, off, h1, h2, h3, h4⟩ := h.get k z hk
  exact ⟨b, off, h1, Nat.lt_of_lt_of_le h2 hb.size, by rw [hb.cell (p := ⟨b, _, none⟩) (hB b off h1 h2)]; exact h3, h4⟩⟩
def okN (m : Nat) (z : Int) : Bool := decide (0 ≤ z) && decide (z < m)
def nums (m : Nat) (zs : List Int) : List Lit := (zs.filter (okN m)).map (Lit.int .i64)
def numD (m : Nat) (zs : List Int) : DataW Unit := setOf (.agg []) (nums m zs)
theorem has_numD (m : Nat) (zs : List Int) (i : Nat) (hi : i < m) : Maps.has (numD m zs) (.int .i64 (i : Int)) = decide ((i : Int) ∈ zs) := by
  unfold numD nums
  rw [has_setOf _ _ _ (fun y hy => by obtain ⟨_, _, rfl⟩ := List.mem_map.1 hy; trivial), List.any_map]
  have key : ∀ x : Int, ((fun x : Lit => x.sameKey (.int .i64 (i : Int))) ∘ Lit.int .i64) x = decide (x = (i : Int)) := fun x => by
    show (Lit.int .i64 x).sameKey (.int .i64 (i : Int)) = _
    by_cases e : x = (i : Int)
    · subst e; simp [Lit.sameKey]
    · rw [sameKey_ne (fun h => e (by injection h)), decide_eq_false e]
  rw [Bool.eq_iff_iff, List.any_eq_true, decide_eq_true_iff]
  constructor
  · rintro ⟨x, hx, h2⟩
    rw [key, decide_eq_true_iff] at h2
    subst h2
    exact (List.mem_filter.1 hx).1
  · intro h
    exact ⟨_, List.mem_filter.2 ⟨h, by simp [okN]; omega⟩, by rw [key]; simp⟩
theorem numD_step (m : Nat) (zs : List Int) (k : Nat) (z : Int) (h : zs[k]? = some z) (ho : okN m z = true) : numD m (zs.take (k + 1)) = (numD m (zs.take k)).put (.int .i64 z) (.agg []) := by
  unfold numD nums
  rw [take_step _ _ _ h, List.filter_append, List.map_append, List.filter_cons_of_pos ho]
  simp only [List.filter_nil, List.map_cons, List.map_nil]
  rw [setOf_snoc]
theorem numD_skip (m : Nat) (zs : List Int) (k : Nat) (z : Int) (h : zs[k]? = some z) (ho : okN m z = false) : numD m (zs.take (k + 1)) = numD m (zs.take k) := by
  unfold numD nums
  rw [take_step _ _ _ h, List.filter_append, List.filter_cons_of_neg (by simpa using ho)]
  simp
theorem law3 : Keyed Tryz.prog 3 := int_keyed Tryz.underlying3
theorem zeroU (w : World) : (zeroValue 114).run Tryz.prog w = .ok (.agg #[]) w := by kernel_rfl
abbrev SetAt (w : World) (B n m : Nat) (zs : List Int) : Prop := w.ownsMap Tryz.prog 3 (unitElem (H := Unit)) B n (numD m zs)
end Go.Proofs.YtghdgddpdamhcaaGreat
