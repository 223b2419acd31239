/- Blocks of one letter, reckoned by the kernel. -/
import Derived.Test.YtjoaiagiankfdaaDoorNumP
import Derived.KernelRfl
namespace Go.Proofs.YtjoaiagiankfdaaDoor.Sha
theorem m20 : blksS kwA 625 (toN sv20) = toN sv21 := by kernel_rfl
theorem m21 : blksS kwA 625 (toN sv21) = toN sv22 := by kernel_rfl
theorem m22 : blksS kwA 625 (toN sv22) = toN sv23 := by kernel_rfl
theorem m23 : blksS kwA 625 (toN sv23) = toN sv24 := by kernel_rfl
theorem m24 : blksS kwA 625 (toN sv24) = toN sv25 := by kernel_rfl
end Go.Proofs.YtjoaiagiankfdaaDoor.Sha
