/- Layer 22: the values that the document's first examples have (no model). -/
import Derived.Test.YtiifkcnpdihlmaaDoorXp
import Derived.ProofKit
namespace Go.Proofs.YtiifkcnpdihlmaaDoor
set_option maxRecDepth 100000
set_option linter.unusedVariables false
set_option linter.unusedSimpArgs false
abbrev ft1 : By := [109, 97, 107, 101, 32, 34, 97, 34, 10, 112, 117, 116, 32, 34, 97, 34, 32, 34, 107, 34, 32, 34, 100, 34, 32, 34, 116, 34, 32, 34, 120, 34, 10, 35, 10, 99, 114, 97, 115, 104, 32, 51, 32, 48, 32, 50]
abbrev ft2 : By := [102, 97, 108, 108, 32, 48, 51]
abbrev fc1 : Cm := ⟨2, 0, 0, ⟨1, [97], [], [], [], 0, 0, []⟩, []⟩
abbrev fc2 : Cm := ⟨2, 0, 0, ⟨3, [97], [107], [100], [⟨[116], [120]⟩], 0, 0, []⟩, []⟩
abbrev fc3 : Cm := ⟨2, 0, 0, ⟨18, [], [], [], [], 0, 3, [0, 2]⟩, []⟩
abbrev fd1 : Cm := ⟨2, 0, 0, ⟨17, [], [], [], [], 0, -1, []⟩, []⟩
abbrev fd2 : Cm := ⟨4, 0, 0, ⟨0, [], [], [], [], 0, 0, []⟩, []⟩
abbrev fd3 : Cm := ⟨6, 0, 0, ⟨0, [], [], [], [], 0, 0, []⟩, []⟩
abbrev fs1 : By := [102, 97, 108, 108, 32, 45, 49, 10, 100, 105, 103, 101, 115, 116, 10]
theorem n3 : numO [51] = some 3 := by kernel_rfl
theorem f_prsE1 : prsE ft1 = 0 := by kernel_rfl
theorem f_prsL1 : prsL ft1 = [fc1, fc2, fc3] := by kernel_rfl
theorem f_prsE2 : prsE ft2 = 110 := by kernel_rfl
theorem f_prsL2 : prsL ft2 = [] := by kernel_rfl
theorem f_prE1 : prE [fd1, fd2] = 0 := by kernel_rfl
theorem f_prT1 : prT [fd1, fd2] = fs1 := by kernel_rfl
theorem f_prE2 : prE [fd3] = 110 := by kernel_rfl
theorem f_prT2 : prT [fd3] = [] := by kernel_rfl
theorem f_quo : quo [0, 34, 97] = [34, 92, 120, 48, 48, 92, 34, 97, 34] := by kernel_rfl
end Go.Proofs.YtiifkcnpdihlmaaDoor
