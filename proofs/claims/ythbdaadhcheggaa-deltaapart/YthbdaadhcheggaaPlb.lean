/- places. -/
import Derived.Test.YthbdaadhcheggaaBkp
namespace Go.Proofs.Ythbdaadhcheggaa
set_option linter.unusedVariables false
set_option linter.unusedSimpArgs false
open Go.RowKit
attribute [local go_sem ↓] Go.wp_at_zero Go.wp_at_succ
attribute [local go_sem ↓] slVe
end Go.Proofs.Ythbdaadhcheggaa
