/- Crash, On. -/
import Derived.Test.YtghdgddpdamhcaaGreatStl
namespace Go.Proofs.YtghdgddpdamhcaaGreat
set_option linter.unusedVariables false
set_option linter.unusedSimpArgs false
open Go.RowKit
theorem DiskAt.setOff {w : World} {D : Dk} {st : St} (h : DiskAt w D st) (b : Bool) : DiskAt (w.setCell ⟨D.p, 3, none⟩ (.bool b)) D { st with off := b } := ⟨⟨h.wf.lo, h.wf.hi, h.wf.sz, h.wf.pd, h.wf.fl⟩, h.raw.setOff b⟩
theorem Stp.set {w w' : World} {D D' : Dk} (h : Stp w D w' D') (j : Nat) (v : Value) : Stp w D (w'.setCell ⟨D'.p, j, none⟩ v) D' := ⟨h.p, h.fr.setCell _ _ _ (.inl (.inl h.p)), h.nw⟩
end Go.Proofs.YtghdgddpdamhcaaGreat
