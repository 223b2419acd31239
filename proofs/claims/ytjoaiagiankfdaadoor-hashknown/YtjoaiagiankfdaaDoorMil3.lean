/- Blocks of one letter, reckoned by the kernel. -/
import Derived.Test.YtjoaiagiankfdaaDoorNumP
import Derived.KernelRfl
namespace Go.Proofs.YtjoaiagiankfdaaDoor.Sha
theorem m15 : blksS kwA 625 (toN sv15) = toN sv16 := by kernel_rfl
theorem m16 : blksS kwA 625 (toN sv16) = toN sv17 := by kernel_rfl
theorem m17 : blksS kwA 625 (toN sv17) = toN sv18 := by kernel_rfl
theorem m18 : blksS kwA 625 (toN sv18) = toN sv19 := by kernel_rfl
theorem m19 : blksS kwA 625 (toN sv19) = toN sv20 := by kernel_rfl
end Go.Proofs.YtjoaiagiankfdaaDoor.Sha
