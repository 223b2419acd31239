import Derived.Test.YtoclndanabcjkaaLp
namespace Go.Proofs.Ytoclndanabcjkaa
set_option linter.unusedVariables false
open Go.RowKit
namespace sumLinear
attribute [local go_sem ↓] Go.wp_at_zero Go.wp_at_succ
attribute [local go_sem] bx_u8 bx_u64

set_option maxRecDepth 100000 in
set_option maxHeartbeats 1600000 in
theorem walk2 (a b c : ByteArray) (ha : a.size ≤ 140737488351232) (hb : b.size ≤ 140737488351232) (hc : c.size ≤ 140737488351232) (w : World)
    (h1 : ¬ b.size < a.size) (h2 : c.size < a.size) :
    Calls Try.prog 5 #[.string a, .string b, .string c] w fun e w' => e = .returned (.bool true) ∧ Below w.heap.size w w' := by
  obtain ⟨i0, hi0, hz0, hz1, hz2⟩ := info_parts info5
  have d1 : decide ((b.size : Int) < (a.size : Int)) = false := by simp; omega
  have d2 : decide ((c.size : Int) < (a.size : Int)) = true := by simp; omega
  go_enter Try.func5, Try.ntmps5
  go_wp2_with fail
  refine (first_any _).mono ?_
  rintro e w1 ⟨rfl, b1⟩
  go_wp2_with fail
  have hB := b1.size
  go_loopw [8, 9] (fun v i wr => ∃ k : Nat, k ≤ c.size ∧ i = .int .i64 k ∧ wr.ownsRow w.heap.size 5 1 v k (vals (X a b c k)) ∧ Below w.heap.size w wr) (fun _ i _ => c.size - (intOf i).toNat)
  case atStart => exact ⟨0, Nat.zero_le _, rfl, World.ownsRow_nil _ _ _ _, b1⟩
  case round =>
    obtain ⟨k, hk, rfl, hown, hbr⟩ := hrel
    by_cases hlt : k < c.size
    · have hlta : k < a.size := by omega
      have hltb : k < b.size := by omega
      have hltc : k < c.size := by omega
      have e0 : (0 : Int) ≤ (k : Int) := Int.natCast_nonneg _
      have e1 : (k : Int) < (a.size : Int) := by omega
      have e2 : (k : Int) < (b.size : Int) := by omega
      have e3 : (k : Int) < (c.size : Int) := by omega
      have HX : Hid _ := X_succ a b c k hlta hltb hltc
      have f1 : k + 1 ≤ maxLen := by unfold maxLen; omega
      have f2 : (k + 1) * 1 ≤ 140737488355328 := by omega
      have f3 : w.heap.size ≤ wr.heap.size + 1 := by have := hbr.size; omega
      go_wp2_with fail
      go_region_held3 (fun w' => True) (trivial)
        ((refine step_append_lies _ (by rfl) _ _ _ (by rfl) w.heap.size 5 i0 _ 1 1 Try.underlying28 hi0 hz0 hz1 hz2 rfl (by omega) u8 k (vals (X a b c k)) (by rfl) ((hown.alloc _).drew) ⟨wr.heap.size, 0, none⟩ 1 1 [.int .u8 ((bx (bx a[k] b[k]) c[k]).toNat : Int)] (by rfl) (by rfl) (World.news_of_block (cs := #[.int .u8 ((bx (bx a[k] b[k]) c[k]).toNat : Int)]) (t := 5) (fr := (0, 0)) (heap_alloc_new wr _)) (by simp [Value.oneCell']) (by omega) f1 f2 (by simpa using f3) (wr.heap.size + 1) (by simp) ?_; intro gg cap w2 hown1 hgrow hat hlt2))
      all_goals
        have hb2 : Below w.heap.size w w2 := ((hbr.alloc hbr.size _).drew).grown hgrow (by have := hbr.size; simp; omega) (fun k0 hk0 => (hown.lt k0 hk0).1)
        have hown2 : w2.ownsRow w.heap.size 5 1 (Value.slice (some { block := gg, off := 0 }) (k + 1) cap) (k + 1) (vals (X a b c (k + 1))) := by rw [HX.out]; exact hown1
        clear hgrow hat hlt2 hown1 hown
        go_wp2
        exact ⟨⟨k + 1, by omega, by go_num, hown2, hb2⟩, by simp [intOf]; omega⟩
    · obtain rfl : k = c.size := by omega
      have hl := X_len a b c c.size (by omega) (by omega) (by omega)
      have hcv := conv_own hown hl
      have hx : (⟨(X a b c c.size).toArray⟩ : ByteArray).size ≤ 140737488351232 := by rw [size_list, hl]; omega
      have hcv0 := hcv _ (Below.refl _ _)
      have hF := fin a b c c.size (by omega) (by omega) (by omega)
      rw [take_all] at hF
      have g0 : (0 : Int) ≤ (c.size : Int) := Int.natCast_nonneg _
      have ga : (c.size : Int) ≤ (a.size : Int) := by omega
      have gb : (c.size : Int) ≤ (b.size : Int) := by omega
      have gc : (c.size : Int) ≤ (c.size : Int) := by omega
      clear hl
      generalize X a b c c.size = L at *
      go_wp2_with fail
      go_region_held3 (fun w' => Below wr.heap.size wr w' ∧ (convert 28 9 u8).run Try.prog w' = .ok (.string ⟨L.toArray⟩) w')
        (first
          | exact ⟨Below.refl _ _, hcv0⟩
          | exact ⟨(Below.refl _ _).drew, hcv _ (Below.refl _ _).drew⟩
          | exact keepS hcv bq (by assumption))
        ((go_at_call 9; refine (of_small _ _ (by first | exact ha | exact hb | exact hc | exact hx | (simp; omega))).mono ?_; rintro e w3 ⟨rfl, bq⟩))
      go_wp2
      go_ret
      rename_i hH
      exact ⟨rfl, hbr.trans (hH.1.mono hbr.size)⟩
end sumLinear
end Go.Proofs.Ytoclndanabcjkaa
