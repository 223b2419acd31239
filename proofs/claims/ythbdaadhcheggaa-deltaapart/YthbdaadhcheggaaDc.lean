/- canonical of delta. -/
import Derived.Test.YthbdaadhcheggaaGm
namespace Go.Proofs.Ythbdaadhcheggaa
set_option linter.unusedVariables false
set_option linter.unusedSimpArgs false
open Go.RowKit
attribute [local go_sem ↓] Go.wp_at_zero Go.wp_at_succ
set_option maxRecDepth 100000 in
set_option maxHeartbeats 4000000 in
theorem dcanonical_any (u v : Vs) (w : World) (a : Option Addr) (n c : Nat) (a' : Option Addr) (n' c' : Nat) :
    Calls Try.prog 28 #[vv u.key u.seq u.mkr u.data a n c, vv v.key v.seq v.mkr v.data a' n' c'] w fun e w' => e = .returned (.int .i64 (cpV u v)) ∧ Below w.heap.size w w' := by
  have h1 := fun w => cmpS_any u.key v.key w
  have h2 := fun w => cmpI_any u.seq v.seq w
  have h3 : ∀ w : World, Calls Try.prog 38 #[.slice (some ⟨w.heap.size, 0, none⟩) 2 2] (w.alloc (.cells #[.int .i64 (bcmp u.key v.key), .int .i64 (icmp u.seq v.seq)] 3)).drew fun e w' => e = .returned (.int .i64 (cpV u v)) ∧ w' = (w.alloc (.cells #[.int .i64 (bcmp u.key v.key), .int .i64 (icmp u.seq v.seq)] 3)).drew := fun w => cmpOr_any _ _ _ _ (by show (w.alloc _).cell? _ = _; rw [cell_of_row _ _ _ _ _ _ (heap_alloc_new w _)]; rfl) (by show (w.alloc _).cell? _ = _; rw [cell_of_row _ _ _ _ _ _ (heap_alloc_new w _)]; rfl)
  generalize cpV u v = CP at *
  generalize bcmp u.key v.key = X at *
  generalize icmp u.seq v.seq = Y at *
  have b1 := (Below.refl w.heap.size w).alloc (Nat.le_refl _) (.cells #[str u.key, .int .i64 u.seq, .bool u.mkr, str u.data, .slice a n c] 41)
  have b2 := b1.alloc b1.size (.cells #[str v.key, .int .i64 v.seq, .bool v.mkr, str v.data, .slice a' n' c'] 41)
  have hsz : ((w.alloc (.cells #[str u.key, .int .i64 u.seq, .bool u.mkr, str u.data, .slice a n c] 41)).alloc (.cells #[str v.key, .int .i64 v.seq, .bool v.mkr, str v.data, .slice a' n' c'] 41)).heap.size = w.heap.size + 2 := by simp
  have x0 : Bv ((w.alloc (.cells #[str u.key, .int .i64 u.seq, .bool u.mkr, str u.data, .slice a n c] 41)).alloc (.cells #[str v.key, .int .i64 v.seq, .bool v.mkr, str v.data, .slice a' n' c'] 41)) w.heap.size (str u.key) (.int .i64 u.seq) (.bool u.mkr) (str u.data) (.slice a n c) := (Bv.new w _ _ _ _ _).later ((Below.refl _ _).alloc (Nat.le_refl _) _)
  have y0 : Bv ((w.alloc (.cells #[str u.key, .int .i64 u.seq, .bool u.mkr, str u.data, .slice a n c] 41)).alloc (.cells #[str v.key, .int .i64 v.seq, .bool v.mkr, str v.data, .slice a' n' c'] 41)) (w.heap.size + 1) (str v.key) (.int .i64 v.seq) (.bool v.mkr) (str v.data) (.slice a' n' c') := by
    have := Bv.new (w.alloc (.cells #[str u.key, .int .i64 u.seq, .bool u.mkr, str u.data, .slice a n c] 41)) (str v.key) (.int .i64 v.seq) (.bool v.mkr) (str v.data) (.slice a' n' c')
    rwa [World.size_alloc] at this
  go_enter Try.func28, Try.ntmps28
  go_wp2_with fail
  generalize (w.alloc (.cells #[str u.key, .int .i64 u.seq, .bool u.mkr, str u.data, .slice a n c] 41)).alloc (.cells #[str v.key, .int .i64 v.seq, .bool v.mkr, str v.data, .slice a' n' c'] 41) = W2 at *
  have HS : Hid (∀ w', Below (w.heap.size + 2) W2 w' → Below (w.heap.size + 2) W2 w' ∧ w'.cell? ⟨w.heap.size, 0, none⟩ = some (str u.key) ∧ w'.cell? ⟨w.heap.size, 1, none⟩ = some (.int .i64 u.seq) ∧ w'.cell? ⟨w.heap.size + 1, 0, none⟩ = some (str v.key) ∧ w'.cell? ⟨w.heap.size + 1, 1, none⟩ = some (.int .i64 v.seq)) := ⟨fun w' h => by
    rw [← hsz] at h
    obtain ⟨g0, g1, _⟩ := (x0.later h).cells
    obtain ⟨t0, t1, _⟩ := (y0.later h).cells
    rw [hsz] at h
    exact ⟨h, g0, g1, t0, t1⟩⟩
  have HZ : Hid (∀ w', Below (w.heap.size + 2) W2 w' → w.heap.size + 2 ≤ w'.heap.size) := ⟨fun w' h => by rw [← hsz]; exact h.size⟩
  clear x0 y0 hsz b1
  go_region_held3 (fun w' => Below (w.heap.size + 2) W2 w' ∧ w'.cell? ⟨w.heap.size, 0, none⟩ = some (str u.key) ∧ w'.cell? ⟨w.heap.size, 1, none⟩ = some (.int .i64 u.seq) ∧ w'.cell? ⟨w.heap.size + 1, 0, none⟩ = some (str v.key) ∧ w'.cell? ⟨w.heap.size + 1, 1, none⟩ = some (.int .i64 v.seq)) (first
    | exact HS.out _ (Below.refl _ _).drew
    | assumption
    | exact HS.out _ (Below.alloc (And.left (by assumption)) (HZ.out _ (And.left (by assumption))) _)) (first
    | (go_at_call 39; with_reducible refine Calls.mono (h1 _) ?_; rintro e w3 ⟨rfl, rfl⟩)
    | (go_at_call 40; with_reducible refine Calls.mono (h2 _) ?_; rintro e w4 ⟨rfl, rfl⟩)
    | (go_at_call 38; with_reducible refine Calls.mono (h3 _) ?_; rintro e w5 ⟨rfl, rfl⟩))
  all_goals (
    have hbw : Below (w.heap.size + 2) W2 (W2.alloc (.cells #[.int .i64 X, .int .i64 Y] 3)).drew := And.left (by assumption)
    go_wp2_with fail
    go_ret
    exact ⟨rfl, b2.trans (hbw.mono (by omega))⟩)
end Go.Proofs.Ythbdaadhcheggaa
