/- refused. -/
import Derived.Test.YthbdaadhcheggaaByb
import Derived.Test.YthbdaadhcheggaaGtb
namespace Go.Proofs.Ythbdaadhcheggaa
set_option linter.unusedVariables false
set_option linter.unusedSimpArgs false
open Go.RowKit
attribute [local go_sem ↓] Go.wp_at_zero Go.wp_at_succ
/-- what names tells of a version -/
noncomputable def vrV (v : Vs) : Int := vrE v.key v.mkr v.data v.l
/-- why a value may not get a version more -/
noncomputable def rfE (next : Int) (L : List Vs) (v : Vs) : Int := if ¬ vrV v = 0 then vrV v else if 1099511627776 < next then 74 else if 256 ≤ L.length then 75 else if 65536 < wrap64 (bw L + szV v) then 76 else 0
theorem vrV_or (v : Vs) : vrV v = 0 ∨ vrV v = 61 ∨ vrV v = 62 ∨ vrV v = 63 := by
  unfold vrV vrE
  split
  · simp
  · split
    · simp
    · split
      · simp
      · rcases mtE_or v.l with q | q <;> simp [q]
theorem boxBW (w : World) (x y : Value) (a b c d e : Value) : ∀ w', Below (w.heap.size + 2) ((w.alloc (.cells #[x, y] 24)).alloc (.cells #[a, b, c, d, e] 41)) w' → Bq w' w.heap.size x y ∧ Bv w' (w.heap.size + 1) a b c d e := fun w' h => by
  refine ⟨?_, ?_⟩
  · refine Bq.low (w := (w.alloc (.cells #[x, y] 24)).alloc (.cells #[a, b, c, d, e] 41)) ?_ (by omega) h
    unfold Bq; rw [heap_alloc_old _ _ (by simp)]; exact heap_alloc_new _ _
  · have := heap_alloc_new (w.alloc (.cells #[x, y] 24)) (.cells #[a, b, c, d, e] 41)
    rw [World.size_alloc] at this
    unfold Bv
    rw [h.block _ (by omega)]
    exact this
theorem wrap_eq (x : Int) : IntKind.i64.wrap x = wrap64 x := by rw [IntKind.wrap_i64]; unfold wrap64; omega
theorem rfE_1 {next : Int} {L : List Vs} {v : Vs} {E : Int} (h : vrV v = E) (hE : ¬ E = 0) : rfE next L v = E := by unfold rfE; rw [h, if_pos hE]
theorem rfE_2 {next : Int} {L : List Vs} {v : Vs} (h : vrV v = 0) (h2 : 1099511627776 < next) : rfE next L v = 74 := by unfold rfE; rw [h, if_neg (by simp), if_pos h2]
theorem rfE_3 {next : Int} {L : List Vs} {v : Vs} (h : vrV v = 0) (h2 : ¬ 1099511627776 < next) (h3 : 256 ≤ L.length) : rfE next L v = 75 := by unfold rfE; rw [h, if_neg (by simp), if_neg h2, if_pos h3]
theorem rfE_4 {next : Int} {L : List Vs} {v : Vs} (h : vrV v = 0) (h2 : ¬ 1099511627776 < next) (h3 : ¬ 256 ≤ L.length) (h4 : 65536 < wrap64 (bw L + szV v)) : rfE next L v = 76 := by unfold rfE; rw [h, if_neg (by simp), if_neg h2, if_neg h3, if_pos h4]
theorem rfE_5 {next : Int} {L : List Vs} {v : Vs} (h : vrV v = 0) (h2 : ¬ 1099511627776 < next) (h3 : ¬ 256 ≤ L.length) (h4 : ¬ 65536 < wrap64 (bw L + szV v)) : rfE next L v = 0 := by unfold rfE; rw [h, if_neg (by simp), if_neg h2, if_neg h3, if_neg h4]
end Go.Proofs.Ythbdaadhcheggaa
