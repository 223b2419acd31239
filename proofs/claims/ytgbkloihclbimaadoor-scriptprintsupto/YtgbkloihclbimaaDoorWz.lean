/- Layer 22: the document's SameStep and Same of commands that are the same. -/
import Derived.Test.YtgbkloihclbimaaDoorWy
namespace Go.Proofs.YtgbkloihclbimaaDoor
set_option maxRecDepth 100000
set_option linter.unusedVariables false
set_option linter.unusedSimpArgs false
open Go.RowKit
attribute [local go_sem ↓] Go.wp_at_zero Go.wp_at_succ
set_option maxHeartbeats 4000000 in
theorem sameStep_eq (c : Cm) (w : World) (ma : Option Addr) (mc : Nat) (ka : Option Addr) (kc : Nat) (ma' : Option Addr) (mc' : Nat) (ka' : Option Addr) (kc' : Nat) (hM : PIn w ma c.st.mt) (hK : Si w ka kc c.st.kept) (hM' : PIn w ma' c.st.mt) (hK' : Si w ka' kc' c.st.kept) (hml : c.st.mt.length ≤ 4611686018427387904) (hkl : c.st.kept.length ≤ 4611686018427387904) :
    Calls Tryd.prog 28 #[.agg (scl c ma mc ka kc), .agg (scl c ma' mc' ka' kc')] w fun e w' => e = .returned (.bool true) ∧ Below w.heap.size w w' := by
  have b1 := (Below.refl w.heap.size w).alloc (Nat.le_refl _) (.cells (scl c ma mc ka kc) 48)
  have y1 : (w.alloc (.cells (scl c ma mc ka kc) 48)).heap[w.heap.size]? = some (.cells (scl c ma mc ka kc) 48 (0, 0)) := heap_alloc_new _ _
  obtain ⟨w2, hw2⟩ : ∃ w2, (w.alloc (.cells (scl c ma mc ka kc) 48)).alloc (.cells (scl c ma' mc' ka' kc') 48) = w2 := ⟨_, rfl⟩
  have b2 : Below w.heap.size w w2 := by rw [← hw2]; exact b1.alloc b1.size _
  have x1 : w2.heap[w.heap.size]? = some (.cells (scl c ma mc ka kc) 48 (0, 0)) := by rw [← hw2, heap_alloc_old _ _ _ (by simp)]; exact y1
  have x2 : w2.heap[w.heap.size + 1]? = some (.cells (scl c ma' mc' ka' kc') 48 (0, 0)) := by
    have := heap_alloc_new (w.alloc (.cells (scl c ma mc ka kc) 48)) (.cells (scl c ma' mc' ka' kc') 48)
    rw [World.size_alloc] at this; rw [← hw2]; exact this
  have P : ∀ w' : World, Below w2.heap.size w2 w' → (w'.heap[w.heap.size]? = some (.cells (scl c ma mc ka kc) 48 (0, 0)) ∧ w'.heap[w.heap.size + 1]? = some (.cells (scl c ma' mc' ka' kc') 48 (0, 0))) := fun w' hb => ⟨by rw [hb.block _ (lt_of_block x1)]; exact x1, by rw [hb.block _ (lt_of_block x2)]; exact x2⟩
  have HP := Hid.mk P
  have HM := Hid.mk (hM.later b2)
  have HM' := Hid.mk (hM'.later b2)
  have HK := Hid.mk (hK.later b2)
  have HK' := Hid.mk (hK'.later b2)
  have HB := Hid.mk b2
  have HML := Hid.mk hml
  have HKL := Hid.mk hkl
  have cc : ∀ j v, (scl c ma mc ka kc)[j]? = some v → w2.cell? ⟨w.heap.size, j, none⟩ = some v := fun j v hv => by rw [cell_of_row _ _ _ _ _ _ x1]; exact hv
  have cd : ∀ j v, (scl c ma' mc' ka' kc')[j]? = some v → w2.cell? ⟨w.heap.size + 1, j, none⟩ = some v := fun j v hv => by rw [cell_of_row _ _ _ _ _ _ x2]; exact hv
  have a0 := cc 0 _ rfl
  have a1 := cc 1 _ rfl
  have a2 := cc 2 _ rfl
  have a3 := cc 3 _ rfl
  have a4 := cc 4 _ rfl
  have a5 := cc 5 _ rfl
  have a6 := cc 6 _ rfl
  have a7 := cc 7 _ rfl
  have e0 := cd 0 _ rfl
  have e1 := cd 1 _ rfl
  have e2 := cd 2 _ rfl
  have e3 := cd 3 _ rfl
  have e4 := cd 4 _ rfl
  have e5 := cd 5 _ rfl
  have e6 := cd 6 _ rfl
  have e7 := cd 7 _ rfl
  clear hM hM' hK hK' hml hkl b1 y1 b2 x1 x2 P cc cd
  go_enter Tryd.func28, Tryd.ntmps28
  go_wp2_with fail
  go_loopw [5] (fun i wr => ∃ k : Nat, k ≤ c.st.mt.length ∧ i = .int .i64 (k : Int) ∧ Hid (Below w2.heap.size w2 wr)) (fun i _ => c.st.mt.length - (intOf i).toNat)
  case atStart => exact ⟨0, Nat.zero_le _, rfl, ⟨Below.refl _ _⟩⟩
  case round =>
    clear a0 a1 a2 a3 a4 a5 a6 a7 e0 e1 e2 e3 e4 e5 e6 e7
    obtain ⟨k, hk, rfl, HR⟩ := hrel
    obtain ⟨z1, z2⟩ := HP.out wr HR.out
    have f4 : wr.cell? ⟨w.heap.size, 4, none⟩ = some (.slice ma c.st.mt.length mc) := by rw [cell_of_row _ _ _ _ _ _ z1]; rfl
    have g4 : wr.cell? ⟨w.heap.size + 1, 4, none⟩ = some (.slice ma' c.st.mt.length mc') := by rw [cell_of_row _ _ _ _ _ _ z2]; rfl
    clear z1 z2
    by_cases h1 : k < c.st.mt.length
    · have d1 : decide ((k : Int) < (c.st.mt.length : Int)) = true := decide_eq_true (Int.ofNat_lt.2 h1)
      have k0 : (0 : Int) ≤ (k : Int) := Int.natCast_nonneg k
      have k1 : (k : Int) < (c.st.mt.length : Int) := Int.ofNat_lt.2 h1
      obtain ⟨p, hp⟩ : ∃ p, c.st.mt[k]? = some p := ⟨_, List.getElem?_eq_getElem h1⟩
      obtain ⟨p1, o1, rfl, _, c0, c1⟩ := (HM.out.later HR.out).get k p hp
      obtain ⟨p2, o2, rfl, _, q0, q1⟩ := (HM'.out.later HR.out).get k p hp
      have hw1 : Hid (wrap64 ((k : Int) + 1) = ((k + 1 : Nat) : Int)) := ⟨wr_succ (Nat.le_trans hk HML.out)⟩
      clear hp
      go_wp2_with fail
      go_quiet (fail)
      go_wp2_with fail
      rw [hw1.out]
      exact ⟨⟨k + 1, h1, rfl, ⟨below_dN HR.out nq⟩⟩, meas_succ h1⟩
    · have d1 : decide ((k : Int) < (c.st.mt.length : Int)) = false := decide_eq_false (fun q => h1 (Int.ofNat_lt.1 q))
      have d2 : decide (k < c.st.mt.length) = false := decide_eq_false h1
      clear h1
      go_wp2_with fail
      go_loopw [6] (fun i wr => ∃ k : Nat, k ≤ c.st.kept.length ∧ i = .int .i64 (k : Int) ∧ Hid (Below w2.heap.size w2 wr)) (fun i _ => c.st.kept.length - (intOf i).toNat)
      case atStart => exact ⟨0, Nat.zero_le _, rfl, HR⟩
      case round =>
        clear HR f4 g4 d1 d2
        obtain ⟨k, hk, rfl, HR⟩ := hrel
        obtain ⟨z1, z2⟩ := HP.out wr HR.out
        have f4 : wr.cell? ⟨w.heap.size, 7, none⟩ = some (.slice ka c.st.kept.length kc) := by rw [cell_of_row _ _ _ _ _ _ z1]; rfl
        have g4 : wr.cell? ⟨w.heap.size + 1, 7, none⟩ = some (.slice ka' c.st.kept.length kc') := by rw [cell_of_row _ _ _ _ _ _ z2]; rfl
        clear z1 z2
        by_cases h1 : k < c.st.kept.length
        · have d1 : decide ((k : Int) < (c.st.kept.length : Int)) = true := decide_eq_true (Int.ofNat_lt.2 h1)
          have k0 : (0 : Int) ≤ (k : Int) := Int.natCast_nonneg k
          have k1 : (k : Int) < (c.st.kept.length : Int) := Int.ofNat_lt.2 h1
          obtain ⟨p, hp⟩ : ∃ p, c.st.kept[k]? = some p := ⟨_, List.getElem?_eq_getElem h1⟩
          obtain ⟨p1, o1, rfl, _, c0⟩ := (HK.out.later HR.out).at' k p hp
          obtain ⟨p2, o2, rfl, _, q0⟩ := (HK'.out.later HR.out).at' k p hp
          have hw1 : Hid (wrap64 ((k : Int) + 1) = ((k + 1 : Nat) : Int)) := ⟨wr_succ (Nat.le_trans hk HKL.out)⟩
          clear hp
          go_wp2_with fail
          go_quiet (fail)
          go_wp2_with fail
          rw [hw1.out]
          exact ⟨⟨k + 1, h1, rfl, ⟨below_dN HR.out nq⟩⟩, meas_succ h1⟩
        · have d1 : decide ((k : Int) < (c.st.kept.length : Int)) = false := decide_eq_false (fun q => h1 (Int.ofNat_lt.1 q))
          have d2 : decide (k < c.st.kept.length) = false := decide_eq_false h1
          clear h1
          go_wp2_with fail
          go_ret
          exact ⟨rfl, below_seq HB.out HR.out⟩
end Go.Proofs.YtgbkloihclbimaaDoor
