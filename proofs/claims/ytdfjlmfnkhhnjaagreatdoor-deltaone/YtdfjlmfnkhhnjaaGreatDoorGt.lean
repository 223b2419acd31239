import Derived.Test.YtdfjlmfnkhhnjaaGreatDoorGn
import Derived.Test.YtdfjlmfnkhhnjaaGreatDoorGi
import Derived.Test.YtdfjlmfnkhhnjaaGreatDoorGz
import Derived.Test.YtdfjlmfnkhhnjaaGreatDoorGo
/- The document's decimal, record. -/
namespace Go.Proofs.YtdfjlmfnkhhnjaaGreatDoor
set_option maxRecDepth 100000
set_option linter.unusedVariables false
set_option linter.unusedSimpArgs false
open Go.RowKit
open Go.Proofs.YtdfjlmfnkhhnjaaGreatDoorP (recd nn LEN key wrote werr refWrite_any refDec_any)
attribute [local go_sem ↓] Go.wp_at_zero Go.wp_at_succ
end Go.Proofs.YtdfjlmfnkhhnjaaGreatDoor

/- The document's item: an item's records. -/
namespace Go.Proofs.YtdfjlmfnkhhnjaaGreatDoor
set_option maxRecDepth 100000
set_option linter.unusedVariables false
set_option linter.unusedSimpArgs false
open Go.RowKit
open Go.Proofs.YtdfjlmfnkhhnjaaGreatDoorP (recd nn LEN key)
open Go.Proofs.YtdfjlmfnkhhnjaaGreatDoorH (hv hexL)
attribute [local go_sem ↓] Go.wp_at_zero Go.wp_at_succ ad9 ldHe
end Go.Proofs.YtdfjlmfnkhhnjaaGreatDoor
