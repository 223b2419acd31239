/- The document's Read: the walk. -/
import Derived.Test.YtkoaojhldcacbaaGreatDoorRb
import Derived.Test.YtkoaojhldcacbaaGreatDoorHe
import Derived.Test.YtkoaojhldcacbaaGreatDoorRe
import Derived.Deep.CutBlock
import Derived.Deep.CutRange
import Derived.BigRegion
namespace Go.Proofs.YtkoaojhldcacbaaGreatDoor
set_option maxRecDepth 100000
set_option linter.unusedVariables false
set_option linter.unusedSimpArgs false
open Go.RowKit
open Go.Proofs.YtkoaojhldcacbaaGreatDoorH (hv hv_length hv_one hv_eq pz range_of_row there_of_row refParse_any parsed_pz hv_b32)
attribute [local go_sem ↓] Go.wp_at_zero Go.wp_at_succ bsQe bdQe ldHe stHe Go.Proofs.YtkoaojhldcacbaaGreatDoorP.sl9
attribute [local go_sem] run_bsQ
attribute [-go_sem] Go.Builtin.append_
end Go.Proofs.YtkoaojhldcacbaaGreatDoor
