/- StackApart: what the third loop looks at. -/
import Derived.Test.YtaonjmmdgfbceaaApo
namespace Go.Proofs.Ytaonjmmdgfbceaa
set_option linter.unusedVariables false
set_option linter.unusedSimpArgs false
open Go.RowKit
theorem L2.look {B : Nat} {w0 w : World} {ab : Nat} {mm : Nat → Nat} {i : Nat} (h : L2 B w0 w ab mm 5 0 0) (hi : i < 5) (hm : mm i ≤ 1048577) :
    ∃ a c L, w.cell? ⟨ab, i, none⟩ = some (.slice a (mm i + 16) c) ∧ Li w L a (mm i + 16) c ∧ Gw i (mm i) L ∧ ∀ u ∈ L, u.l.length ≤ 2000000 := by
  obtain ⟨V, R, h1, h2, h3, h4⟩ := h
  have hl := h2 i hi hi
  obtain ⟨a, c, e, s⟩ := (h1.q.fo i hi).ls
  have hz : ∀ u ∈ (R i).map (·.v), u.l.length ≤ 1048578 := fun u hu => by
    obtain ⟨r, hr, rfl⟩ := List.mem_map.1 hu
    exact (h1.z i r hi hr).2
  have hlen : ((R i).map (·.v)).length = mm i + 16 := by rw [List.length_map]; exact hl.len
  refine ⟨a, c, (R i).map (·.v), by rw [h1.q.cell hi, e, hl.len], ⟨hlen, s, by rw [hlen]; omega, fun u hu => Nat.le_trans (hz u hu) (by decide)⟩, hl.gw, fun u hu => Nat.le_trans (hz u hu) (by decide)⟩
theorem L2.b {B : Nat} {w0 w : World} {ab : Nat} {mm : Nat → Nat} {i n k : Nat} (h : L2 B w0 w ab mm i n k) : Below B w0 w := by
  obtain ⟨V, R, h1, _⟩ := h
  exact h1.b
end Go.Proofs.Ytaonjmmdgfbceaa
