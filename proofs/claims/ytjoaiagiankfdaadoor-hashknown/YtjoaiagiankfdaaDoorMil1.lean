/- Blocks of one letter, reckoned by the kernel. -/
import Derived.Test.YtjoaiagiankfdaaDoorNumP
import Derived.KernelRfl
namespace Go.Proofs.YtjoaiagiankfdaaDoor.Sha
theorem m5 : blksS kwA 625 (toN sv5) = toN sv6 := by kernel_rfl
theorem m6 : blksS kwA 625 (toN sv6) = toN sv7 := by kernel_rfl
theorem m7 : blksS kwA 625 (toN sv7) = toN sv8 := by kernel_rfl
theorem m8 : blksS kwA 625 (toN sv8) = toN sv9 := by kernel_rfl
theorem m9 : blksS kwA 625 (toN sv9) = toN sv10 := by kernel_rfl
end Go.Proofs.YtjoaiagiankfdaaDoor.Sha
