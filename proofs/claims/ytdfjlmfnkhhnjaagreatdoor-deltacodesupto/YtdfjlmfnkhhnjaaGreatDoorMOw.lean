/- own: the document's manifest as the program's, with marks behind each list. -/
import Derived.Test.YtdfjlmfnkhhnjaaGreatDoorGq
import Derived.Test.YtdfjlmfnkhhnjaaGreatDoorGt
namespace Go.Proofs.YtdfjlmfnkhhnjaaGreatDoor
set_option maxRecDepth 100000
set_option linter.unusedVariables false
set_option linter.unusedSimpArgs false
open Go.RowKit
open Go.Proofs.YtdfjlmfnkhhnjaaGreatDoorH (hv hv_length hv_one hv_eq)
attribute [local go_sem ↓] Go.wp_at_zero Go.wp_at_succ bsIe bdIe slPe ldQe stQe
attribute [local go_sem] run_bsI
noncomputable def slI (v : Value) (a b c : Option Value) : Sem Value := Instr.slice 26 v a b c
theorem slIe (v : Value) (a b c : Option Value) : Instr.slice 26 v a b c = slI v a b c := rfl
attribute [local go_sem ↓] slIe
end Go.Proofs.YtdfjlmfnkhhnjaaGreatDoor
