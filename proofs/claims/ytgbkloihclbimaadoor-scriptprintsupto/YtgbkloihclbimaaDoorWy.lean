/- Layer 22: told, the program's commands as the document's. -/
import Derived.Test.YtgbkloihclbimaaDoorWx
namespace Go.Proofs.YtgbkloihclbimaaDoor
set_option maxRecDepth 100000
set_option linter.unusedVariables false
set_option linter.unusedSimpArgs false
open Go.RowKit
attribute [local go_sem ↓] Go.wp_at_zero Go.wp_at_succ
/-- a step's cells -/
abbrev scl (c : Cm) (ma : Option Addr) (mc : Nat) (ka : Option Addr) (kc : Nat) : Array Value := #[.int .i64 c.st.kind, str c.st.bucket, str c.st.key, str c.st.data, .slice ma c.st.mt.length mc, .int .i64 c.st.seq, .int .i64 c.st.n, .slice ka c.st.kept.length kc]
theorem infoS : (Tryd.prog.info? 34).map (·.size) = some 8 := by kernel_rfl
theorem infoQS : (Tryd.prog.info? 48).map (·.size) = some 8 := by kernel_rfl
noncomputable def ldP (v : Value) : Sem Value := Instr.loadAt 34 v
theorem ldPe (v : Value) : Instr.loadAt 34 v = ldP v := rfl
noncomputable def stP (p v : Value) : Sem Unit := Instr.storeAt 34 p v
theorem stPe (p v : Value) : Instr.storeAt 34 p v = stP p v := rfl
noncomputable def ldQ (v : Value) : Sem Value := Instr.loadAt 48 v
theorem ldQe (v : Value) : Instr.loadAt 48 v = ldQ v := rfl
noncomputable def stQ (p v : Value) : Sem Unit := Instr.storeAt 48 p v
theorem stQe (p v : Value) : Instr.storeAt 48 p v = stQ p v := rfl
abbrev zS : Array Value := #[.int .i64 0, .string ⟨#[]⟩, .string ⟨#[]⟩, .string ⟨#[]⟩, .slice none 0 0, .int .i64 0, .int .i64 0, .slice none 0 0]
theorem scl_one (c : Cm) (ma : Option Addr) (mc : Nat) (ka : Option Addr) (kc : Nat) : (scl c ma mc ka kc).all (·.oneCell') = true := by simp [scl, Value.oneCell']
theorem run_ldP {w : World} {b o : Nat} {c : Cm} {ma : Option Addr} {mc : Nat} {ka : Option Addr} {kc : Nat} (h : w.rangeAt b o (scl c ma mc ka kc).toList) : (ldP (.pointer (some ⟨b, o, none⟩))).run Tryd.prog w = .ok (.agg (scl c ma mc ka kc)) w := by
  unfold ldP
  exact run_loadAt_mid (P := Tryd.prog) w b o 34 (scl c ma mc ka kc).toList _ h Tryd.underlying34 rfl infoS
theorem run_stP (w : World) (c : Cm) (ma : Option Addr) (mc : Nat) (ka : Option Addr) (kc : Nat) : (stP (.pointer (some ⟨w.heap.size, 0, none⟩)) (.agg (scl c ma mc ka kc))).run Tryd.prog (w.alloc (.cells zS 34)) = .ok () (w.alloc (.cells (scl c ma mc ka kc) 34)) := by
  unfold stP
  exact run_storeAt_new w 34 zS (scl c ma mc ka kc) infoS rfl (scl_one ..)
theorem run_stQ (w : World) (c : Cm) (ma : Option Addr) (mc : Nat) (ka : Option Addr) (kc : Nat) : (stQ (.pointer (some ⟨w.heap.size, 0, none⟩)) (.agg (scl c ma mc ka kc))).run Tryd.prog (w.alloc (.cells zS 48)) = .ok () (w.alloc (.cells (scl c ma mc ka kc) 48)) := by
  unfold stQ
  exact run_storeAt_new w 48 zS (scl c ma mc ka kc) infoQS rfl (scl_one ..)
theorem run_ldQ {w : World} {g : Nat} {c : Cm} {ma : Option Addr} {mc : Nat} {ka : Option Addr} {kc : Nat} (h : w.heap[g]? = some (.cells (scl c ma mc ka kc) 48 (0, 0))) : (ldQ (.pointer (some ⟨g, 0, none⟩))).run Tryd.prog w = .ok (.agg (scl c ma mc ka kc)) w := by
  unfold ldQ
  refine run_loadAt_mid (P := Tryd.prog) w g 0 48 (scl c ma mc ka kc).toList _ (fun j v hv => ?_) Tryd.underlying48 rfl infoQS
  rw [Nat.zero_add, cell_of_row _ _ _ _ _ _ h, ← Array.getElem?_toList]; exact hv
theorem range_step {w : World} {b o : Nat} {r : Cr} (h : w.rangeAt b o (ccl r)) : w.rangeAt b (o + 3) (scl r.c r.ma r.mc r.ka r.kc).toList := fun j v hv => by
  have hj : j < 8 := (List.getElem?_eq_some_iff.1 hv).1
  have h1 : (ccl r)[3 + j]? = some v := by
    have : j = 0 ∨ j = 1 ∨ j = 2 ∨ j = 3 ∨ j = 4 ∨ j = 5 ∨ j = 6 ∨ j = 7 := by omega
    rcases this with rfl | rfl | rfl | rfl | rfl | rfl | rfl | rfl <;> exact hv
  have := h (3 + j) v h1
  rw [show o + (3 + j) = o + 3 + j by omega] at this
  exact this
end Go.Proofs.YtgbkloihclbimaaDoor
