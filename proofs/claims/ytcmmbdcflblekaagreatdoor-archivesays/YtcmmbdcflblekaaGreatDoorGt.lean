import Derived.Test.YtcmmbdcflblekaaGreatDoorGn
import Derived.Test.YtcmmbdcflblekaaGreatDoorGi
import Derived.Test.YtcmmbdcflblekaaGreatDoorHRHex
import Derived.Test.YtcmmbdcflblekaaGreatDoorGo
/- The document's decimal, record. -/
namespace Go.Proofs.YtcmmbdcflblekaaGreatDoor
set_option maxRecDepth 100000
set_option linter.unusedVariables false
set_option linter.unusedSimpArgs false
open Go.RowKit
open Go.Proofs.YtcmmbdcflblekaaGreatDoorP (recd nn LEN key wrote werr)
attribute [local go_sem ↓] Go.wp_at_zero Go.wp_at_succ
end Go.Proofs.YtcmmbdcflblekaaGreatDoor

/- The document's item: an item's records. -/
namespace Go.Proofs.YtcmmbdcflblekaaGreatDoor
set_option maxRecDepth 100000
set_option linter.unusedVariables false
set_option linter.unusedSimpArgs false
open Go.RowKit
open Go.Proofs.YtcmmbdcflblekaaGreatDoorP (recd nn LEN key)
open Go.Proofs.YtcmmbdcflblekaaGreatDoorH (hv hexL)
attribute [local go_sem ↓] Go.wp_at_zero Go.wp_at_succ ad9 ldHe
theorem recd_le {k v : List UInt8} (h : LEN (nn k v) ≤ 1048576) : (recd k v).length ≤ 1048576 := by rw [Go.Proofs.YtcmmbdcflblekaaGreatDoorP.recd_length]; exact h
end Go.Proofs.YtcmmbdcflblekaaGreatDoor
