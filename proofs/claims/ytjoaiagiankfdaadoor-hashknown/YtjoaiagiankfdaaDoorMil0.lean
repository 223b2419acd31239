/- Blocks of one letter, reckoned by the kernel. -/
import Derived.Test.YtjoaiagiankfdaaDoorNumP
import Derived.KernelRfl
namespace Go.Proofs.YtjoaiagiankfdaaDoor.Sha
theorem m0 : blksS kwA 625 (toN sv0) = toN sv1 := by kernel_rfl
theorem m1 : blksS kwA 625 (toN sv1) = toN sv2 := by kernel_rfl
theorem m2 : blksS kwA 625 (toN sv2) = toN sv3 := by kernel_rfl
theorem m3 : blksS kwA 625 (toN sv3) = toN sv4 := by kernel_rfl
theorem m4 : blksS kwA 625 (toN sv4) = toN sv5 := by kernel_rfl
end Go.Proofs.YtjoaiagiankfdaaDoor.Sha
