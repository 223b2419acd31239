/- From the laws' arguments to the lists that the walks speak of. -/
import Derived.Test.YtijkabnhedmimabHead
import Derived.Test.YtijkabnhedmimabCmp
import Derived.Test.YtijkabnhedmimabRows
import Derived.ProofKit
import Derived.OpenShut
import Derived.SizedLaws
namespace Go.Proofs.Ytijkabnhedmimab
set_option linter.unusedVariables false
set_option linter.unusedSimpArgs false
open Go.RowKit
theorem own : ownKnob Try.prog.godebug = none := by kernel_rfl
theorem cmpC : CmpC := comparePart_any
theorem str_of (s : ByteArray) : str s.data.toList = .string s := by simp [str]
theorem size_of (s : ByteArray) : s.data.toList.length = s.size := by rw [Array.length_toList]; rfl
theorem wf64 {n : Int} (h : (Lit.int .i64 n).wf = true) : -9223372036854775808 ≤ n ∧ n ≤ 9223372036854775807 := by
  simpa [Lit.wf, IntKind.min, IntKind.max, IntKind.signed, IntKind.bits] using h
end Go.Proofs.Ytijkabnhedmimab
