/- Compare: the order of two lists. -/
import Derived.Test.YtijkabnhedmimabWr
import Derived.RegionCalls
import Derived.Deep.RegionHeld3
namespace Go.Proofs.Ytijkabnhedmimab
set_option linter.unusedVariables false
set_option linter.unusedSimpArgs false
open Go.RowKit
attribute [local go_sem ↓] Go.wp_at_zero Go.wp_at_succ
theorem nani_any (x : Int) (w : World) : Calls Try.prog 36 #[.int .i64 x] w fun e w' => e = .returned (.bool false) ∧ w' = w := by
  go_enter Try.func36, Try.ntmps36
  go_wp2
  go_ret
  exact ⟨by simp, rfl⟩
theorem nanInt_any (x : Int) (w : World) : Calls Try.prog 37 #[.int .i64 x] w fun e w' => e = .returned (.bool false) ∧ w' = w := by
  go_enter Try.func37, Try.ntmps37
  go_wp2
  go_ret
  exact ⟨by simp, rfl⟩
theorem cmpi_any (x y : Int) (w : World) : Calls Try.prog 30 #[.int .i64 x, .int .i64 y] w fun e w' => e = .returned (.int .i64 (icmp x y)) ∧ w' = w := by
  rcases icmp_cases x y with ⟨h, h1⟩ | ⟨h, h1⟩ | ⟨h, h1⟩
  · rw [h]
    have d1 : decide (x < y) = true := decide_eq_true h1
    go_enter Try.func30, Try.ntmps30
    go_wp2_with (go_at_call 36; refine (nani_any _ _).mono ?_; rintro e w' ⟨rfl, rfl⟩)
    go_ret
    exact ⟨rfl, rfl⟩
  · rw [h]
    subst h1
    go_enter Try.func30, Try.ntmps30
    go_wp2_with (go_at_call 36; refine (nani_any _ _).mono ?_; rintro e w' ⟨rfl, rfl⟩)
    go_ret
    exact ⟨rfl, rfl⟩
  · rw [h]
    have d1 : decide (x < y) = false := decide_eq_false (by omega)
    have d2 : decide (y < x) = true := decide_eq_true h1
    go_enter Try.func30, Try.ntmps30
    go_wp2_with (go_at_call 36; refine (nani_any _ _).mono ?_; rintro e w' ⟨rfl, rfl⟩)
    go_ret
    exact ⟨rfl, rfl⟩
theorem cmpInt_any (x y : Int) (w : World) : Calls Try.prog 32 #[.int .i64 x, .int .i64 y] w fun e w' => e = .returned (.int .i64 (icmp x y)) ∧ w' = w := by
  rcases icmp_cases x y with ⟨h, h1⟩ | ⟨h, h1⟩ | ⟨h, h1⟩
  · rw [h]
    have d1 : decide (x < y) = true := decide_eq_true h1
    go_enter Try.func32, Try.ntmps32
    go_wp2_with (go_at_call 37; refine (nanInt_any _ _).mono ?_; rintro e w' ⟨rfl, rfl⟩)
    go_ret
    exact ⟨rfl, rfl⟩
  · rw [h]
    subst h1
    go_enter Try.func32, Try.ntmps32
    go_wp2_with (go_at_call 37; refine (nanInt_any _ _).mono ?_; rintro e w' ⟨rfl, rfl⟩)
    go_ret
    exact ⟨rfl, rfl⟩
  · rw [h]
    have d1 : decide (x < y) = false := decide_eq_false (by omega)
    have d2 : decide (y < x) = true := decide_eq_true h1
    go_enter Try.func32, Try.ntmps32
    go_wp2_with (go_at_call 37; refine (nanInt_any _ _).mono ?_; rintro e w' ⟨rfl, rfl⟩)
    go_ret
    exact ⟨rfl, rfl⟩
/-- the first of three that is not 0 -/
def or3 (x y z : Int) : Int := if x ≠ 0 then x else if y ≠ 0 then y else z
theorem cmpOr_any (x y z : Int) (w : World) (g : Nat) (c0 : w.cell? ⟨g, 0, none⟩ = some (.int .i64 x)) (c1 : w.cell? ⟨g, 1, none⟩ = some (.int .i64 y)) (c2 : w.cell? ⟨g, 2, none⟩ = some (.int .i64 z)) :
    Calls Try.prog 31 #[.slice (some ⟨g, 0, none⟩) 3 3] w fun e w' => e = .returned (.int .i64 (or3 x y z)) ∧ w' = w := by
  go_enter Try.func31, Try.ntmps31
  go_wp2_with fail
  go_loop [8] (fun i => i = .int .i64 0 ∨ (i = .int .i64 1 ∧ x = 0) ∨ (i = .int .i64 2 ∧ x = 0 ∧ y = 0) ∨ (i = .int .i64 3 ∧ x = 0 ∧ y = 0 ∧ z = 0)) (fun i => 3 - (intOf i).toNat)
  case atStart => exact Or.inl rfl
  case round =>
    rcases hrel with rfl | ⟨rfl, rfl⟩ | ⟨rfl, rfl, rfl⟩ | ⟨rfl, rfl, rfl, rfl⟩
    · by_cases h : x = 0
      · subst h
        go_wp2_with fail
        exact ⟨by simp, by simp [intOf]⟩
      · have d : (x != 0) = true := by rw [bne_iff_ne]; exact h
        have HO : Hid (or3 x y z = x) := ⟨if_pos h⟩
        go_wp2_with fail
        go_ret
        exact ⟨by rw [HO.out]; rfl, rfl⟩
    · by_cases h : y = 0
      · subst h
        go_wp2_with fail
        exact ⟨by simp, by simp [intOf]⟩
      · have d : (y != 0) = true := by rw [bne_iff_ne]; exact h
        have HO : Hid (or3 0 y z = y) := ⟨by simp [or3, h]⟩
        go_wp2_with fail
        go_ret
        exact ⟨by rw [HO.out]; rfl, rfl⟩
    · by_cases h : z = 0
      · subst h
        go_wp2_with fail
        exact ⟨by simp, by simp [intOf]⟩
      · have d : (z != 0) = true := by rw [bne_iff_ne]; exact h
        have HO : Hid (or3 0 0 z = z) := ⟨by simp [or3]⟩
        go_wp2_with fail
        go_ret
        exact ⟨by rw [HO.out]; rfl, rfl⟩
    · go_wp2_with fail
      go_ret
      exact ⟨rfl, rfl⟩
theorem ints3 {w : World} {g : Nat} {x y z : Value} {t : TypeId} (hg : g = w.heap.size) : (w.alloc (.cells #[x, y, z] t)).cell? ⟨g, 0, none⟩ = some x ∧ (w.alloc (.cells #[x, y, z] t)).cell? ⟨g, 1, none⟩ = some y ∧ (w.alloc (.cells #[x, y, z] t)).cell? ⟨g, 2, none⟩ = some z := by
  subst hg
  have hr : (w.alloc (.cells #[x, y, z] t)).heap[w.heap.size]? = some (.cells #[x, y, z] t (0, 0)) := heap_alloc_new _ _
  exact ⟨by rw [cell_of_row _ _ _ _ _ _ hr]; rfl, by rw [cell_of_row _ _ _ _ _ _ hr]; rfl, by rw [cell_of_row _ _ _ _ _ _ hr]; rfl⟩
theorem cells2 (w : World) (a0 a1 a2 b0 b1 b2 : Value) (t : TypeId) :
    ((w.alloc (.cells #[a0, a1, a2] t)).alloc (.cells #[b0, b1, b2] t)).cell? ⟨w.heap.size, 0, none⟩ = some a0 ∧ ((w.alloc (.cells #[a0, a1, a2] t)).alloc (.cells #[b0, b1, b2] t)).cell? ⟨w.heap.size, 1, none⟩ = some a1 ∧
    ((w.alloc (.cells #[a0, a1, a2] t)).alloc (.cells #[b0, b1, b2] t)).cell? ⟨w.heap.size + 1, 0, none⟩ = some b0 ∧ ((w.alloc (.cells #[a0, a1, a2] t)).alloc (.cells #[b0, b1, b2] t)).cell? ⟨w.heap.size + 1, 1, none⟩ = some b1 := by
  have h1 : ((w.alloc (.cells #[a0, a1, a2] t)).alloc (.cells #[b0, b1, b2] t)).heap[w.heap.size]? = some (.cells #[a0, a1, a2] t (0, 0)) := by rw [heap_alloc_old _ _ (by simp), heap_alloc_new]
  have h2 : ((w.alloc (.cells #[a0, a1, a2] t)).alloc (.cells #[b0, b1, b2] t)).heap[w.heap.size + 1]? = some (.cells #[b0, b1, b2] t (0, 0)) := heap_alloc2_new _ _ _
  exact ⟨by rw [cell_of_row _ _ _ _ _ _ h1]; rfl, by rw [cell_of_row _ _ _ _ _ _ h1]; rfl, by rw [cell_of_row _ _ _ _ _ _ h2]; rfl, by rw [cell_of_row _ _ _ _ _ _ h2]; rfl⟩
set_option maxHeartbeats 8000000 in
theorem comparePart_any (p q : Pt) (w : World) : Calls Try.prog 21 #[pv p, pv q] w fun e w' => e = .returned (.int .i64 (cmpP p q)) ∧ Below w.heap.size w w' := by
  have c1 := fun w => cmpi_any p.n q.n w
  have c2 := fun w => cmpInt_any p.kind q.kind w
  have c3 := fun w => strCompare_any ⟨p.text.toArray⟩ ⟨q.text.toArray⟩ w
  have e : cmpP p q = or3 (icmp p.kind q.kind) (bcmp p.text q.text) (if p.kind = 3 then - icmp p.n q.n else icmp p.n q.n) := by
    unfold cmpP or3
    rw [icmp_neg p.n q.n]
  have hb1 : -1 ≤ icmp p.n q.n ∧ icmp p.n q.n ≤ 1 := by rcases icmp_cases p.n q.n with h | h | h <;> omega
  rw [e]
  clear e
  generalize icmp p.n q.n = Z at *
  generalize icmp p.kind q.kind = X at *
  generalize hY : bcmp p.text q.text = Y at *
  have c3' : ∀ w, Calls Try.prog 33 #[str p.text, str q.text] w fun e w' => e = .returned (.int .i64 Y) ∧ w' = w := c3
  clear c3 hY
  obtain ⟨pk, pt, pn⟩ := p
  obtain ⟨qk, qt, qn⟩ := q
  dsimp only at *
  have B2 : ∀ o1 o2, Below w.heap.size w ((w.alloc o1).alloc o2) := fun o1 o2 => ((Below.refl _ _).alloc (Nat.le_refl _) o1).alloc (by simp) o2
  by_cases h3 : pk = 3
  · have d3 : (pk == 3) = true := by rw [beq_iff_eq]; exact h3
    rw [if_pos h3]
    clear h3
    go_enter Try.func21, Try.ntmps21
    go_wp2_with (first
      | (go_at_call 30; refine (c1 _).mono ?_; rintro e w' ⟨rfl, rfl⟩))
    have k0 : ((w.alloc (Obj.cells #[Value.int IntKind.i64 pk, str pt, Value.int IntKind.i64 pn] 39)).alloc (Obj.cells #[Value.int IntKind.i64 qk, str qt, Value.int IntKind.i64 qn] 39)).heap.size = w.heap.size + 1 + 1 := by simp
    have KC := cells2 w (.int .i64 pk) (str pt) (.int .i64 pn) (.int .i64 qk) (str qt) (.int .i64 qn) 39
    have B2' := B2 (Obj.cells #[Value.int IntKind.i64 pk, str pt, Value.int IntKind.i64 pn] 39) (Obj.cells #[Value.int IntKind.i64 qk, str qt, Value.int IntKind.i64 qn] 39)
    generalize ((w.alloc (Obj.cells #[Value.int IntKind.i64 pk, str pt, Value.int IntKind.i64 pn] 39)).alloc (Obj.cells #[Value.int IntKind.i64 qk, str qt, Value.int IntKind.i64 qn] 39)) = W at *
    generalize hG : w.heap.size = G at *
    obtain ⟨k1, k2, k3, k4⟩ := KC
    go_region_with (first
      | (go_at_call 32; with_reducible refine Calls.mono (c2 _) ?_; rintro e w' ⟨rfl, rfl⟩)
      | (go_at_call 33; with_reducible refine Calls.mono (c3' _) ?_; rintro e w' ⟨rfl, rfl⟩)
      | (go_at_call 31; refine Calls.mono (cmpOr_any X Y (-Z) _ _ ?_ ?_ ?_) ?_; exact (ints3 (w := W) k0.symm).1; exact (ints3 (w := W) k0.symm).2.1; exact (ints3 (w := W) k0.symm).2.2; rintro e w' ⟨rfl, rfl⟩))
    all_goals go_wp2_with fail
    all_goals go_ret
    all_goals exact ⟨rfl, by rw [hG]; exact (B2'.alloc (by omega) _).drew⟩
  · have d3 : (pk == 3) = false := by rw [beq_eq_false_iff_ne]; exact h3
    rw [if_neg h3]
    clear h3
    go_enter Try.func21, Try.ntmps21
    go_wp2_with (first
      | (go_at_call 30; refine (c1 _).mono ?_; rintro e w' ⟨rfl, rfl⟩))
    have k0 : ((w.alloc (Obj.cells #[Value.int IntKind.i64 pk, str pt, Value.int IntKind.i64 pn] 39)).alloc (Obj.cells #[Value.int IntKind.i64 qk, str qt, Value.int IntKind.i64 qn] 39)).heap.size = w.heap.size + 1 + 1 := by simp
    have KC := cells2 w (.int .i64 pk) (str pt) (.int .i64 pn) (.int .i64 qk) (str qt) (.int .i64 qn) 39
    have B2' := B2 (Obj.cells #[Value.int IntKind.i64 pk, str pt, Value.int IntKind.i64 pn] 39) (Obj.cells #[Value.int IntKind.i64 qk, str qt, Value.int IntKind.i64 qn] 39)
    generalize ((w.alloc (Obj.cells #[Value.int IntKind.i64 pk, str pt, Value.int IntKind.i64 pn] 39)).alloc (Obj.cells #[Value.int IntKind.i64 qk, str qt, Value.int IntKind.i64 qn] 39)) = W at *
    generalize hG : w.heap.size = G at *
    obtain ⟨k1, k2, k3, k4⟩ := KC
    go_region_with (first
      | (go_at_call 32; with_reducible refine Calls.mono (c2 _) ?_; rintro e w' ⟨rfl, rfl⟩)
      | (go_at_call 33; with_reducible refine Calls.mono (c3' _) ?_; rintro e w' ⟨rfl, rfl⟩)
      | (go_at_call 31; refine Calls.mono (cmpOr_any X Y Z _ _ ?_ ?_ ?_) ?_; exact (ints3 (w := W) k0.symm).1; exact (ints3 (w := W) k0.symm).2.1; exact (ints3 (w := W) k0.symm).2.2; rintro e w' ⟨rfl, rfl⟩))
    all_goals go_wp2_with fail
    all_goals go_ret
    all_goals exact ⟨rfl, by rw [hG]; exact (B2'.alloc (by omega) _).drew⟩
end Go.Proofs.Ytijkabnhedmimab
