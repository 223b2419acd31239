import Derived.Test.YtdfjlmfnkhhnjaaGreatDoorGu
/- head's examples (no model's run). -/
namespace Go.Proofs.YtdfjlmfnkhhnjaaGreatDoor
set_option maxRecDepth 100000
set_option linter.unusedVariables false
set_option linter.unusedSimpArgs false
open Go.RowKit
open Go.Proofs.YtdfjlmfnkhhnjaaGreatDoorP (TB recd nn LEN key Rd RdAt recd_length)
open Go.Proofs.YtdfjlmfnkhhnjaaGreatDoorH (hv leaf)
abbrev m0 : Ma := ⟨0, 1, []⟩
abbrev nothing : List UInt8 := [49, 51, 32, 107, 105, 110, 100, 61, 102, 117, 108, 108, 10, 49, 57, 32, 102, 111, 114, 109, 97, 116, 61, 99, 111, 102, 102, 101, 114, 45, 49, 10, 57, 32, 110, 101, 120, 116, 61, 49, 10, 49, 49, 32, 99, 111, 117, 110, 116, 61, 48, 10, 49, 54, 32, 101, 110, 100, 61, 109, 97, 110, 105, 102, 101, 115, 116, 10]
end Go.Proofs.YtdfjlmfnkhhnjaaGreatDoor
/- head: the examples. -/
namespace Go.Proofs.YtdfjlmfnkhhnjaaGreatDoor
set_option maxRecDepth 100000
set_option linter.unusedVariables false
set_option linter.unusedSimpArgs false
open Go.RowKit
open Go.Proofs.YtdfjlmfnkhhnjaaGreatDoorP (TB recd nn LEN key Rd RdAt)
open Go.Proofs.YtdfjlmfnkhhnjaaGreatDoorH (hv leaf KIn)
attribute [local go_sem ↓] Go.wp_at_zero Go.wp_at_succ
end Go.Proofs.YtdfjlmfnkhhnjaaGreatDoor
