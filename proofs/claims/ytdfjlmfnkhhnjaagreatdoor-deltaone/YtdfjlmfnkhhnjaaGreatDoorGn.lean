import Derived.Test.YtdfjlmfnkhhnjaaGreatDoorQRt
import Derived.Deep.QuietTactic
import Derived.Test.YtdfjlmfnkhhnjaaGreatDoorGd
/- The document's SamePairs. -/
namespace Go.Proofs.YtdfjlmfnkhhnjaaGreatDoor
set_option maxRecDepth 100000
set_option linter.unusedVariables false
set_option linter.unusedSimpArgs false
open Go.RowKit
attribute [local go_sem ↓] Go.wp_at_zero Go.wp_at_succ
end Go.Proofs.YtdfjlmfnkhhnjaaGreatDoor

/- The document's Same. -/
namespace Go.Proofs.YtdfjlmfnkhhnjaaGreatDoor
set_option maxRecDepth 100000
set_option linter.unusedVariables false
set_option linter.unusedSimpArgs false
open Go.RowKit
open Go.Proofs.YtdfjlmfnkhhnjaaGreatDoorH (hv hv_length hv_one hv_eq hv_b32 hv_inj eqb eq22 eqb_of)
noncomputable def ldH (v : Value) : Sem Value := Instr.loadAt 44 v
theorem ldHe (v : Value) : Instr.loadAt 44 v = ldH v := rfl
noncomputable def eqH (p q : Value) : Sem Bool := Op.equalIn 10000 44 p q
theorem eqHe (p q : Value) : Op.equalIn 10000 44 p q = eqH p q := rfl
theorem infoH : (Tryz.prog.info? 44).map (·.size) = some 32 := by kernel_rfl
attribute [local go_sem ↓] Go.wp_at_zero Go.wp_at_succ ldQe stQe ldHe eqHe
end Go.Proofs.YtdfjlmfnkhhnjaaGreatDoor
