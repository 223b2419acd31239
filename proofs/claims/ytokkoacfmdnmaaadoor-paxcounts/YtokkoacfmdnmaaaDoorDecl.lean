/- The laws' own digits. -/
import Derived.Test.YtokkoacfmdnmaaaDoorDec
import Derived.RegionCalls
import Derived.Deep.RegionHeld3
namespace Go.Proofs.YtokkoacfmdnmaaaDoor
set_option linter.unusedVariables false
set_option linter.unusedSimpArgs false
open Go.RowKit
theorem conv_at {w : World} {g : Nat} {m : Nat} (h : w.heap[g]? = some (.cells #[.int .u8 (48 + (m : Int) % 10)] 5 (0, 0))) : (convert 32 9 (.slice (some ⟨g, 0, none⟩) 1 1)).run Tryd.prog w = .ok (.string ⟨#[dgc m]⟩) w := by
  refine run_convert_bytes_back _ 32 9 5 ⟨g, 0, none⟩ 1 [dgc m] Tryd.underlying32 Tryd.underlying5 Tryd.underlying9 ?_
  intro j hj
  have hj0 : j = 0 := by simpa using hj
  subst hj0
  have hadd : (⟨g, 0, none⟩ : Addr).add 0 = ⟨g, 0, none⟩ := by unfold Addr.add; split <;> simp_all
  rw [hadd, cell_of_row _ _ _ _ _ _ h]
  show some (Value.int .u8 (48 + (m : Int) % 10)) = some (.int .u8 ((dgc m).toNat : Int))
  unfold dgc
  rw [toNat_dig _ (by omega)]
  congr 2
theorem conv_later {w0 w2 : World} {m : Nat} (hb : Below (w0.alloc (.cells #[.int .u8 (48 + (m : Int) % 10)] 5)).heap.size (w0.alloc (.cells #[.int .u8 (48 + (m : Int) % 10)] 5)) w2) :
    (convert 32 9 (.slice (some ⟨w0.heap.size, 0, none⟩) 1 1)).run Tryd.prog w2 = .ok (.string ⟨#[dgc m]⟩) w2 :=
  conv_at ((hb.block w0.heap.size (by simp)).trans (heap_alloc_new _ _))
theorem conv_later2 {w0 w2 : World} {m : Nat} (hb : Below ((w0.alloc (.cells #[.int .u8 (48 + (m : Int) % 10)] 5)).drew).heap.size ((w0.alloc (.cells #[.int .u8 (48 + (m : Int) % 10)] 5)).drew) w2) :
    (convert 32 9 (.slice (some ⟨w0.heap.size, 0, none⟩) 1 1)).run Tryd.prog w2 = .ok (.string ⟨#[dgc m]⟩) w2 :=
  conv_at ((hb.block w0.heap.size (by simp)).trans (heap_alloc_new _ _))
attribute [local go_sem ↓] Go.wp_at_zero Go.wp_at_succ
set_option maxHeartbeats 2000000 in
theorem dec_any : ∀ (f n : Nat), n < f → n ≤ 9223372036854775807 → ∀ (w : World),
    Calls Tryd.prog 12 #[.int .i64 (n : Int)] w fun e w' => e = .returned (str (Lib.decDigits n)) ∧ Below w.heap.size w w'
  | 0, n, h, _, _ => by omega
  | f + 1, n, h, hn, w => by
    have hcv := fun wr => conv_dig n wr
    have hnl : ¬ 9223372036854775807 < Lib.nDigits (n / 10) + 1 := by have := nDigits_int (n := n / 10) (by omega); omega
    have hs1 : (⟨#[dgc n]⟩ : ByteArray).size = 1 := by rfl
    have hs2 : (⟨(Lib.decDigits (n / 10)).toArray⟩ : ByteArray).size = Lib.nDigits (n / 10) := by rw [← Lib.decDigits_length]; rfl
    go_enter Tryd.func12, Tryd.ntmps12
    by_cases h1 : n < 10
    · have d1 : decide ((n : Int) < 10) = true := decide_eq_true (by omega)
      have hcv1 : ∀ wr : World, (convert 32 9 (.slice (some ⟨wr.heap.size, 0, none⟩) 1 1)).run Tryd.prog (wr.alloc (.cells #[.int .u8 (48 + (n : Int))] 5)) = .ok (.string ⟨#[dgc n]⟩) (wr.alloc (.cells #[.int .u8 (48 + (n : Int))] 5)) := fun wr => by
        have := hcv wr
        rwa [show (n : Int) % 10 = (n : Int) by omega] at this
      clear hcv
      have hE : Hid (Lib.decDigits n = [dgc n]) := ⟨dec_small h1⟩
      go_wp2_with fail
      go_ret
      exact ⟨by rw [hE.out]; rfl, (Below.refl _ _).alloc (Nat.le_refl _) _⟩
    · have d1 : decide ((n : Int) < 10) = false := decide_eq_false (by omega)
      have ih : ∀ w, Calls Tryd.prog 12 #[.int .i64 ((n : Int) / 10)] w fun e w' => e = .returned (.string ⟨(Lib.decDigits (n / 10)).toArray⟩) ∧ Below w.heap.size w w' := fun w => by
        have := dec_any f (n / 10) (by omega) (by omega) w
        rwa [show ((n / 10 : Nat) : Int) = (n : Int) / 10 by omega] at this
      have hE : Hid (Lib.decDigits n = Lib.decDigits (n / 10) ++ [dgc n]) := ⟨dec_big h1⟩
      have hct : Hid ((⟨(Lib.decDigits (n / 10)).toArray⟩ : ByteArray) ++ ⟨#[dgc n]⟩ = ⟨(Lib.decDigits (n / 10) ++ [dgc n]).toArray⟩) := ⟨cat_lists _ [dgc n]⟩
      generalize (⟨(Lib.decDigits (n / 10)).toArray⟩ : ByteArray) = q at *
      have hcd : ∀ wr : World, (convert 32 9 (.slice (some ⟨wr.heap.size, 0, none⟩) 1 1)).run Tryd.prog ((wr.alloc (.cells #[.int .u8 (48 + (n : Int) % 10)] 5)).drew) = .ok (.string ⟨#[dgc n]⟩) ((wr.alloc (.cells #[.int .u8 (48 + (n : Int) % 10)] 5)).drew) := fun wr => conv_at (heap_alloc_new wr _)
      have e1 : IntKind.i64.wrap ((n : Int) / 10) = (n : Int) / 10 := by rw [IntKind.wrap_i64]; omega
      have e2 : (n : Int).tmod 10 = (n : Int) % 10 := Int.tmod_eq_emod_of_nonneg (by omega)
      have e3 : IntKind.i64.wrap (48 + (n : Int) % 10) = 48 + (n : Int) % 10 := by rw [IntKind.wrap_i64]; omega
      have e4 : IntKind.u8.wrap (48 + (n : Int) % 10) = 48 + (n : Int) % 10 := by rw [IntKind.wrap_u8]; omega
      go_wp2_with fail
      go_region_with (go_at_call 12; with_reducible refine Calls.mono (ih _) ?_; rintro e w2 ⟨rfl, hb⟩; first | (have hX := conv_later hb) | (have hX := conv_later2 hb) | skip)
      all_goals
        go_wp2_with fail
        go_ret
        refine ⟨?_, ?_⟩
        · show Ending.returned (.string (_ ++ _)) = _
          rw [hct.out, hE.out]
        · first
            | exact (below_seq ((Below.refl _ _).drew) hb).alloc (below_seq ((Below.refl _ _).drew) hb).size _
            | exact below_seq (((Below.refl _ _).alloc (Nat.le_refl _) _).drew) hb
end Go.Proofs.YtokkoacfmdnmaaaDoor
