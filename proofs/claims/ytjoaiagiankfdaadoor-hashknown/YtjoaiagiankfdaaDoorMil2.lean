/- Blocks of one letter, reckoned by the kernel. -/
import Derived.Test.YtjoaiagiankfdaaDoorNumP
import Derived.KernelRfl
namespace Go.Proofs.YtjoaiagiankfdaaDoor.Sha
theorem m10 : blksS kwA 625 (toN sv10) = toN sv11 := by kernel_rfl
theorem m11 : blksS kwA 625 (toN sv11) = toN sv12 := by kernel_rfl
theorem m12 : blksS kwA 625 (toN sv12) = toN sv13 := by kernel_rfl
theorem m13 : blksS kwA 625 (toN sv13) = toN sv14 := by kernel_rfl
theorem m14 : blksS kwA 625 (toN sv14) = toN sv15 := by kernel_rfl
end Go.Proofs.YtjoaiagiankfdaaDoor.Sha
