/- The reference: the digits. -/
import Derived.Test.YtdfjlmfnkhhnjaaGreatDoorGz
import Derived.Test.YtdfjlmfnkhhnjaaGreatDoorGd
namespace Go.Proofs.YtdfjlmfnkhhnjaaGreatDoorH
set_option maxRecDepth 100000
set_option linter.unusedVariables false
set_option linter.unusedSimpArgs false
open Go.RowKit
theorem conv_own {wr : World} {base k : Nat} {v : Value} {l : List UInt8} (h : wr.ownsRow base 5 1 v k (vals l)) (hl : l.length = k) : (convert 47 9 v).run Tryz.prog wr = .ok (.string ⟨l.toArray⟩) wr := by
  rcases h.2 with ⟨rfl, h0⟩ | ⟨g, cap, cur, rfl, _, _⟩
  · have : l = [] := List.length_eq_zero_iff.1 (by omega)
    subst this
    exact run_convert_bytes_nil wr 47 5 Tryz.underlying47 Tryz.underlying5 0 0 9 Tryz.underlying9
  · have hg := (h.lt g rfl).2
    subst hl
    refine run_convert_bytes_back wr 47 9 5 ⟨g, 0, none⟩ cap l Tryz.underlying47 Tryz.underlying5 Tryz.underlying9 ?_
    intro j hj
    have hadd : (⟨g, 0, none⟩ : Addr).add j = ⟨g, j, none⟩ := by unfold Addr.add; split <;> simp_all
    rw [hadd, h.cellAt j (by omega)]
    simp [vals, hj]
def hp (g : Nat → UInt8) (n : Nat) : List UInt8 := (List.range n).map (hx g)
noncomputable def ixS (v i : Value) : Sem Value := Instr.index 9 v i
theorem ix9 (v i : Value) : Instr.index 9 v i = ixS v i := rfl
attribute [local go_sem ↓] ix9
attribute [local go_sem ↓] Go.wp_at_zero Go.wp_at_succ
end Go.Proofs.YtdfjlmfnkhhnjaaGreatDoorH
