/- Get and GetVersion. -/
import Derived.Test.YthbdaadhcheggaaPlb
import Derived.Test.YthbdaadhcheggaaGb
import Derived.Test.YthbdaadhcheggaaBq
import Derived.Test.YthbdaadhcheggaaVer
namespace Go.Proofs.Ythbdaadhcheggaa
set_option linter.unusedVariables false
set_option linter.unusedSimpArgs false
open Go.RowKit
theorem run_slV_mid (a : Option Addr) (len cap i j : Nat) (h0 : i ≤ j) (h1 : j ≤ len) (h2 : len ≤ cap) (h3 : cap ≤ 9223372036854775807) (hn : a = none → cap = 0) (w : World) : (slV (.slice a len cap) (some (.int .i64 (i : Int))) (some (.int .i64 (j : Int))) none).run Try.prog w = .ok (.slice (dropV a cap i) (j - i) (cap - i)) w := by
  unfold slV
  cases a with
  | none =>
    obtain rfl := hn rfl
    obtain rfl : len = 0 := by omega
    obtain rfl : j = 0 := by omega
    obtain rfl : i = 0 := by omega
    simp [Instr.slice, Try.underlying22, go_sem, dropV]
  | some ad =>
    obtain ⟨i0, hi0, hz0, hz1, hz2⟩ := infoV
    have c : ¬ ((j : Int) < (i : Int)) := by omega
    have c2 : ¬ ((cap : Int) < (j : Int)) := by omega
    by_cases h : cap - i = 0
    · have : cap = i := by omega
      subst this
      have : j = cap := by omega
      subst this
      simp [Instr.slice, Try.underlying22, go_sem, dropV, c, c2, hi0, hz1, sizeOf, typeInfo]
    · have h' : cap ≠ i := by omega
      simp [Instr.slice, Try.underlying22, go_sem, dropV, h, h', h0, c, c2, hi0, hz1, sizeOf, typeInfo]
      intro q
      omega
attribute [local go_sem ↓] Go.wp_at_zero Go.wp_at_succ
attribute [local go_sem ↓] slVe
/-- the versions of a key that stand from a place on -/
def gpL (L : List Vs) (i : Nat) (k : List UInt8) : List Vs := (L.drop i).take (ken (L.drop i) k)
theorem ken_drop {L : List Vs} {i : Nat} (hi : i ≤ L.length) (k : List UInt8) : i + ken (L.drop i) k ≤ L.length := by
  have := ken_le (L.drop i) k
  rw [List.length_drop] at this
  omega
theorem Li.gp {w : World} {L : List Vs} {a : Option Addr} {n c : Nat} (h : Li w L a n c) {i : Nat} (hi : i ≤ n) (k : List UInt8) : Li w (gpL L i k) (dropV a c i) (ken (L.drop i) k) (c - i) := by
  have hn := h.n
  have := ken_drop (L := L) (by omega : i ≤ L.length) k
  exact (h.drop hi).take (by omega)
theorem boxBV (w : World) (x y : Value) : ∀ w', Below (w.heap.size + 2) ((w.alloc (.cells #[x, y] 24)).alloc (.cells z5c 41)) w' → Bq w' w.heap.size x y ∧ Bv w' (w.heap.size + 1) (.string ⟨#[]⟩) (.int .i64 0) (.bool false) (.string ⟨#[]⟩) (.slice none 0 0) := fun w' h => by
  refine ⟨?_, ?_⟩
  · refine Bq.low (w := (w.alloc (.cells #[x, y] 24)).alloc (.cells z5c 41)) ?_ (by omega) h
    unfold Bq; rw [heap_alloc_old _ _ (by simp)]; exact heap_alloc_new _ _
  · have := heap_alloc_new (w.alloc (.cells #[x, y] 24)) (.cells z5c 41)
    rw [World.size_alloc] at this
    unfold Bv
    rw [h.block _ (by omega)]
    exact this
end Go.Proofs.Ythbdaadhcheggaa
