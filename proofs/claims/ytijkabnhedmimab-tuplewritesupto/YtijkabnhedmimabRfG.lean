/- The reference: a text's groups. -/
import Derived.Test.YtijkabnhedmimabRNum
namespace Go.Proofs.Ytijkabnhedmimab
set_option linter.unusedVariables false
set_option linter.unusedSimpArgs false
open Go.RowKit
attribute [local go_sem ↓] Go.wp_at_zero Go.wp_at_succ
attribute [local go_sem ↓] sl9 ix9
theorem conv1 (c : Int) (C : UInt8) (hC : c = (C.toNat : Int)) (w : World) : (convert 47 9 (.slice (some ⟨w.heap.size, 0, none⟩) 1 1)).run Try.prog (w.alloc (.cells #[.int .u8 c] 5)) = .ok (str [C]) (w.alloc (.cells #[.int .u8 c] 5)) := by
  subst hC
  refine run_convert_bytes_back _ 47 9 5 ⟨w.heap.size, 0, none⟩ 1 [C] Try.underlying47 Try.underlying5 Try.underlying9 ?_
  intro j hj
  have hj0 : j = 0 := by simpa using hj
  subst hj0
  have hadd : (⟨w.heap.size, 0, none⟩ : Addr).add 0 = ⟨w.heap.size, 0, none⟩ := by unfold Addr.add; split <;> simp_all
  have hr : (w.alloc (.cells #[.int .u8 (C.toNat : Int)] 5)).heap[w.heap.size]? = some (.cells #[.int .u8 (C.toNat : Int)] 5 (0, 0)) := heap_alloc_new _ _
  rw [hadd, cell_of_row _ _ _ _ _ _ hr]
  rfl
set_option maxHeartbeats 2000000 in
theorem refGroups_any (t : List UInt8) (w : World) (hl : t.length ≤ 100000000) :
    Calls Try.prog 24 #[str t] w fun e w' => e = .returned (str (grp t)) ∧ Below w.heap.size w w' := by
  go_enter Try.func24, Try.ntmps24
  go_wp2_with fail
  go_loopw [0, 3] (fun x v wr => ∃ (R D : List UInt8), x = str R ∧ v = str D ∧ Hid (grp t = D ++ grp R) ∧ R.length ≤ t.length ∧ wr = w) (fun x _ _ => szOf x)
  case atStart => exact ⟨t, [], rfl, rfl, ⟨rfl⟩, Nat.le_refl _, rfl⟩
  case round =>
    obtain ⟨R, D, rfl, rfl, hG, hR, rfl⟩ := hrel
    have hlen : D.length ≤ 200000000 := by
      have := congrArg List.length hG.out
      rw [grp_length, List.length_append] at this
      have h2 : ngr t.length ≤ t.length / 8 + 1 := by unfold ngr; split <;> omega
      omega
    by_cases h8 : 8 < R.length
    · have d1 : decide ((8 : Int) < (R.length : Int)) = true := decide_eq_true (by omega)
      have g1 : ∀ w, (slS (str R) none (some (.int .i64 8)) none).run Try.prog w = .ok (str (R.take 8)) w := run_hi R 8 (by omega) (by omega)
      have g2 : ∀ w, (slS (str R) (some (.int .i64 8)) none none).run Try.prog w = .ok (str (R.drop 8)) w := run_lo R 8 (by omega) (by omega)
      have ht : (R.take 8).length = 8 := by rw [List.length_take]; omega
      go_wp2_with fail
      refine ⟨⟨R.drop 8, D ++ R.take 8 ++ [9], rfl, congrArg Value.string ?_, ⟨?_⟩, ?_, trivial⟩, ?_⟩
      · rw [cat_str]; exact cat_str _ [9]
      · rw [hG.out, grp_long h8]; simp
      · rw [List.length_drop]; omega
      · simp only [szOf, str_size, List.length_drop]; omega
    · have d1 : decide ((8 : Int) < (R.length : Int)) = false := decide_eq_false (by omega)
      go_wp2_with fail
      go_loopw [0] (fun x wx => ∃ j : Nat, R.length + j ≤ 8 ∧ x = str (R ++ List.replicate j 0) ∧ wx = wr) (fun x _ => 8 - szOf x)
      case atStart => exact ⟨0, by omega, by simp, rfl⟩
      case round =>
        obtain ⟨j, hj, rfl, rfl⟩ := hrel
        have hjl : (R ++ List.replicate j (0 : UInt8)).length = R.length + j := by simp
        by_cases hlt : R.length + j < 8
        · have d2 : decide (((R ++ List.replicate j (0 : UInt8)).length : Int) < 8) = true := decide_eq_true (by omega)
          have HJ : Hid ((⟨(R ++ List.replicate j (0 : UInt8)).toArray⟩ ++ ⟨#[0]⟩ : ByteArray) = ⟨(R ++ List.replicate (j + 1) (0 : UInt8)).toArray⟩) := ⟨by
            have := cat_str (R ++ List.replicate j (0 : UInt8)) [0]
            rw [this, List.append_assoc, List.replicate_succ']⟩
          have HJ2 : Hid ((R ++ List.replicate (j + 1) (0 : UInt8)).length = R.length + (j + 1)) := ⟨by simp⟩
          generalize R ++ List.replicate j (0 : UInt8) = S at *
          go_wp2_with fail
          refine ⟨⟨j + 1, by omega, congrArg Value.string HJ.out, trivial⟩, ?_⟩
          rw [HJ.out]
          simp only [szOf, str_size]
          rw [HJ2.out, hjl]
          omega
        · have hj8 : R.length + j = 8 := by omega
          have d2 : decide (((R ++ List.replicate j (0 : UInt8)).length : Int) < 8) = false := decide_eq_false (by omega)
          have hj' : j = 8 - R.length := by omega
          have hF : Hid (grp t = D ++ (R ++ List.replicate j 0) ++ [UInt8.ofNat R.length]) := ⟨by rw [hG.out, grp_short (by omega), hj']; simp⟩
          have hC : Hid ((R.length : Int) = ((UInt8.ofNat R.length).toNat : Int)) := ⟨by simp; omega⟩
          have hw : (R.length : Int) % 256 = (R.length : Int) := by omega
          have hcv := conv1 (R.length : Int) (UInt8.ofNat R.length) hC.out wr
          clear hj'
          generalize R ++ List.replicate j (0 : UInt8) = S at *
          go_wp2_with fail
          go_ret
          refine ⟨?_, (Below.refl _ _).alloc (Nat.le_refl _) _⟩
          rw [hF.out]
          show Ending.returned (.string ((⟨D.toArray⟩ ++ ⟨S.toArray⟩) ++ ⟨[UInt8.ofNat R.length].toArray⟩)) = _
          rw [cat_str, cat_str]
end Go.Proofs.Ytijkabnhedmimab
