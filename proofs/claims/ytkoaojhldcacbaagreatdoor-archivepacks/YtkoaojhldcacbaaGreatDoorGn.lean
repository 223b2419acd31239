import Derived.Test.YtkoaojhldcacbaaGreatDoorGm
import Derived.Deep.QuietTactic
import Derived.Test.YtkoaojhldcacbaaGreatDoorGd
/- The document's SamePairs. -/
namespace Go.Proofs.YtkoaojhldcacbaaGreatDoor
set_option maxRecDepth 100000
set_option linter.unusedVariables false
set_option linter.unusedSimpArgs false
open Go.RowKit
attribute [local go_sem ↓] Go.wp_at_zero Go.wp_at_succ
end Go.Proofs.YtkoaojhldcacbaaGreatDoor

/- The document's Same. -/
namespace Go.Proofs.YtkoaojhldcacbaaGreatDoor
set_option maxRecDepth 100000
set_option linter.unusedVariables false
set_option linter.unusedSimpArgs false
open Go.RowKit
open Go.Proofs.YtkoaojhldcacbaaGreatDoorH (hv hv_length hv_one hv_eq hv_b32 hv_inj eqb eq22 eqb_of)
noncomputable def ldH (v : Value) : Sem Value := Instr.loadAt 71 v
theorem ldHe (v : Value) : Instr.loadAt 71 v = ldH v := rfl
noncomputable def eqH (p q : Value) : Sem Bool := Op.equalIn 10000 71 p q
theorem eqHe (p q : Value) : Op.equalIn 10000 71 p q = eqH p q := rfl
theorem infoH : (Tryz.prog.info? 71).map (·.size) = some 32 := by kernel_rfl
theorem run_ldH {w : World} {g : Nat} {x : It} {a : Option Addr} {c : Nat} (h : Bj w g x a c) : (ldH (.pointer (some ⟨g, 5, none⟩))).run Tryz.prog w = .ok (.agg (hv x.g).toArray) w := by
  unfold ldH
  refine run_loadAt_mid (P := Tryz.prog) w g 5 71 (hv x.g) _ ?_ Tryz.underlying71 rfl (by rw [hv_length]; exact infoH)
  intro j v hj
  refine h.range (5 + j) v ?_ |> fun q => by simpa using q
  unfold ic
  rw [List.getElem?_append_right (by simp)]
  simpa using hj
attribute [local go_sem ↓] Go.wp_at_zero Go.wp_at_succ ldQe stQe ldHe eqHe
end Go.Proofs.YtkoaojhldcacbaaGreatDoor
