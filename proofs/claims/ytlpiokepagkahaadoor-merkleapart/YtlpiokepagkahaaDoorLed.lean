/- The neighbour's place, and where a hash is led. -/
import Derived.Test.YtlpiokepagkahaaDoorRt
namespace Go.Proofs.YtlpiokepagkahaaDoor
set_option linter.unusedVariables false
set_option linter.unusedSimpArgs false
open Go.RowKit
attribute [local go_sem ↓] Go.wp_at_zero Go.wp_at_succ
theorem xor1 (i : Nat) : i ^^^ 1 = Tree.nb i := by
  unfold Tree.nb
  have e1 : (i ^^^ 1) / 2 = i / 2 := by rw [Nat.xor_div_two]; simp
  have e2 : (i ^^^ 1) % 2 = (i + 1) % 2 := by
    have h := Nat.xor_mod_two_pow (a := i) (b := 1) (n := 1)
    rw [Nat.pow_one] at h
    rw [h]
    rcases Nat.mod_two_eq_zero_or_one i with h0 | h0 <;> rw [h0] <;> simp <;> omega
  split <;> omega
theorem nb_bits (i : Nat) (hi : i < 9223372036854775808) : bits BinOp.xor IntKind.i64 (i : Int) 1 = (Tree.nb i : Int) := by
  have hb : (2 : Nat) ^ IntKind.i64.bits = 18446744073709551616 := rfl
  simp only [bits]
  simp
  rw [hb, Nat.mod_eq_of_lt (show i < 18446744073709551616 by omega), Nat.mod_eq_of_lt (show 1 < 18446744073709551616 by omega), xor1, IntKind.wrap_i64]
  unfold Tree.nb
  split <;> omega
set_option maxHeartbeats 400000 in
theorem nb_any (i : Nat) (hi : i < 9223372036854775808) (w : World) : Calls Tryd.prog 25 #[.int .i64 (i : Int)] w fun e w' => e = .returned (.int .i64 (Tree.nb i : Int)) ∧ w' = w := by
  have h1 := nb_bits i hi
  have h2 : IntKind.i64.wrap (Tree.nb i : Int) = (Tree.nb i : Int) := by rw [IntKind.wrap_i64]; unfold Tree.nb; split <;> omega
  go_enter Tryd.func25, Tryd.ntmps25
  go_wp2_with fail
  go_ret
  exact ⟨rfl, rfl⟩
attribute [local go_sem ↓] ld23
set_option maxHeartbeats 400000 in
set_option maxRecDepth 8000 in
theorem led_any (h o : Hs) (i : Nat) (w : World) (hK : KIn w) : Calls Tryd.prog 26 #[.agg (hv h).toArray, .int .i64 (i : Int), .agg (hv o).toArray] w fun e w' => e = .returned (.agg (hv (Tree.led node i h o)).toArray) ∧ Below w.heap.size w w' := by
  have S0 := NS.start w h o hK (Z := zero32) (by simp)
  have hl1 := load23 (range_of_row S0.ha)
  have hl2 := load23 (range_of_row S0.hb)
  go_enter Tryd.func26, Tryd.ntmps26
  by_cases ho : i % 2 = 1
  · have hi : (i : Int) % 2 = 1 := by omega
    have eL : Tree.led node i h o = node o h := by unfold Tree.led; rw [if_pos ho]
    go_wp2_with fail
    refine (node_hv o h _ S0.k).mono ?_
    rintro e w2 ⟨rfl, bq⟩
    have N2 := S0.next bq
    have t2 := N2.hc
    have b2 := N2.bel
    clear hl1 hl2 S0 bq
    go_wp2_with (refine wpList_store_mid rfl 23 _ _ rfl (w.heap.size + 1 + 1) 0 _ rfl rfl (there_hv t2 _) (size_hv _) (all_oneCell_toArray (hv_one _)) ?_)
    exact bodyPost_ret (v := .agg (hv (node o h)).toArray) (results_mid Tryd.results26 _ _ (w.heap.size + 1 + 1) (node o h) rfl (range_new t2 _)) rfl ⟨by rw [eL], below_setCells (by omega) _ _ b2⟩
  · have hi : (i : Int) % 2 = 0 := by omega
    have eL : Tree.led node i h o = node h o := by unfold Tree.led; rw [if_neg ho]
    go_wp2_with fail
    refine (node_hv h o _ S0.k).mono ?_
    rintro e w2 ⟨rfl, bq⟩
    have N2 := S0.next bq
    have t2 := N2.hc
    have b2 := N2.bel
    clear hl1 hl2 S0 bq
    go_wp2_with (refine wpList_store_mid rfl 23 _ _ rfl (w.heap.size + 1 + 1) 0 _ rfl rfl (there_hv t2 _) (size_hv _) (all_oneCell_toArray (hv_one _)) ?_)
    exact bodyPost_ret (v := .agg (hv (node h o)).toArray) (results_mid Tryd.results26 _ _ (w.heap.size + 1 + 1) (node h o) rfl (range_new t2 _)) rfl ⟨by rw [eL], below_setCells (by omega) _ _ b2⟩
end Go.Proofs.YtlpiokepagkahaaDoor
