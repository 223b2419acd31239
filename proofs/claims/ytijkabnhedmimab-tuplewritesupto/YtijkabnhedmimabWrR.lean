/- The reference: a part, its text, its order. -/
import Derived.Test.YtijkabnhedmimabRfG
import Derived.RegionCalls
import Derived.Deep.RegionHeld3
namespace Go.Proofs.Ytijkabnhedmimab
set_option linter.unusedVariables false
set_option linter.unusedSimpArgs false
open Go.RowKit
attribute [local go_sem ↓] Go.wp_at_zero Go.wp_at_succ
attribute [local go_sem ↓] sl9 ix9
set_option maxHeartbeats 1000000 in
theorem refRight_any (p : Pt) (w : World) : Calls Try.prog 14 #[pv p] w fun e w' => e = .returned (.bool (isP p)) ∧ Below w.heap.size w w' := by
  obtain ⟨k, t, n⟩ := p
  by_cases h1 : k = 1
  · subst h1
    have hi : Hid (isP ⟨1, t, n⟩ = (n == 0)) := ⟨by simp [isP]⟩
    by_cases hn : n = 0
    · subst hn
      go_enter Try.func14, Try.ntmps14
      go_wp2_with fail
      all_goals go_ret
      all_goals exact ⟨by rw [hi.out]; rfl, (Below.refl _ _).alloc (Nat.le_refl _) _⟩
    · have d1 : (n == 0) = false := by rw [beq_eq_false_iff_ne]; exact hn
      go_enter Try.func14, Try.ntmps14
      go_wp2_with fail
      all_goals go_ret
      all_goals exact ⟨by rw [hi.out, d1]; rfl, (Below.refl _ _).alloc (Nat.le_refl _) _⟩
  · have d1 : (k == 1) = false := by rw [beq_eq_false_iff_ne]; exact h1
    by_cases h2 : k = 2
    · subst h2
      have hi : Hid (isP ⟨2, t, n⟩ = t.isEmpty) := ⟨by simp [isP]⟩
      go_enter Try.func14, Try.ntmps14
      go_wp2_with fail
      all_goals go_ret
      all_goals exact ⟨by rw [hi.out]; rfl, (Below.refl _ _).alloc (Nat.le_refl _) _⟩
    · have d2 : (k == 2) = false := by rw [beq_eq_false_iff_ne]; exact h2
      by_cases h3 : k = 3
      · subst h3
        have hi : Hid (isP ⟨3, t, n⟩ = t.isEmpty) := ⟨by simp [isP]⟩
        go_enter Try.func14, Try.ntmps14
        go_wp2_with fail
        all_goals go_ret
        all_goals exact ⟨by rw [hi.out]; rfl, (Below.refl _ _).alloc (Nat.le_refl _) _⟩
      · have d3 : (k == 3) = false := by rw [beq_eq_false_iff_ne]; exact h3
        have hi : Hid (isP ⟨k, t, n⟩ = false) := ⟨by simp [isP, h1, h2, h3]⟩
        go_enter Try.func14, Try.ntmps14
        go_wp2_with fail
        all_goals go_ret
        all_goals exact ⟨by rw [hi.out]; rfl, (Below.refl _ _).alloc (Nat.le_refl _) _⟩
theorem refNumbers_any (x y : Int) (w : World) : Calls Try.prog 17 #[.int .i64 x, .int .i64 y] w fun e w' => e = .returned (.int .i64 (icmp x y)) ∧ w' = w := by
  rcases icmp_cases x y with ⟨h, h1⟩ | ⟨h, h1⟩ | ⟨h, h1⟩
  · rw [h]
    have d1 : decide (x < y) = true := decide_eq_true h1
    go_enter Try.func17, Try.ntmps17
    go_wp2_with fail
    go_ret
    exact ⟨rfl, rfl⟩
  · rw [h]
    subst h1
    go_enter Try.func17, Try.ntmps17
    go_wp2_with fail
    go_ret
    exact ⟨rfl, rfl⟩
  · rw [h]
    have d1 : decide (x < y) = false := decide_eq_false (by omega)
    have d2 : decide (y < x) = true := decide_eq_true h1
    go_enter Try.func17, Try.ntmps17
    go_wp2_with fail
    go_ret
    exact ⟨rfl, rfl⟩
set_option maxHeartbeats 1000000 in
theorem refNumber_any (n : Nat) (h64 : n < 18446744073709551616) (w : World) : Calls Try.prog 25 #[.int .u64 (n : Int)] w fun e w' => e = .returned (str (bek 8 n)) ∧ Below w.heap.size w w' := by
  go_enter Try.func25, Try.ntmps25
  go_wp2_with fail
  go_loopw [3, 4] (fun b i wr => ∃ k : Nat, k ≤ 8 ∧ i = .int .i64 (7 - (k : Int)) ∧ Ob w.heap.size wr b (bek k (n / 256 ^ (8 - k))) ∧ Below w.heap.size w wr) (fun _ i _ => (intOf i + 1).toNat)
  case atStart => exact ⟨0, by omega, rfl, Ob.nil _ _ (Nat.le_refl _), Below.refl _ _⟩
  case round =>
    obtain ⟨k, hk, rfl, hO', hb⟩ := hrel
    by_cases hlt : k < 8
    · have hd : decide ((0 : Int) ≤ 7 - (k : Int)) = true := decide_eq_true (by omega)
      have hl : (bek k (n / 256 ^ (8 - k))).length ≤ 200000000000000 := by rw [bek_length]; omega
      have hC : Hid ((n : Int) / 2 ^ (8 * (7 - k)) % 256 = ((UInt8.ofNat (n / 256 ^ (7 - k))).toNat : Int)) := by
        constructor
        rw [UInt8.toNat_ofNat', show (256 : Nat) ^ (7 - k) = 2 ^ (8 * (7 - k)) by rw [Nat.pow_mul], Int.natCast_emod, Int.natCast_ediv, Int.natCast_pow]
        rfl
      have HS : Hid (∀ v3 w3, Ob w.heap.size w3 v3 (bek k (n / 256 ^ (8 - k)) ++ [UInt8.ofNat (n / 256 ^ (7 - k))]) → Ob w.heap.size w3 v3 (bek (k + 1) (n / 256 ^ (8 - (k + 1))))) :=
        ⟨fun v3 w3 h => by rw [bek_step n k hlt]; exact h⟩
      go_wp2_with (refine app_byte _ hO' hl hC.out rfl _ _ rfl rfl rfl ?_; intro v3 w3 hO3 hb3)
      refine ⟨⟨k + 1, by omega, ?_, HS.out _ _ hO3, hb.trans hb3⟩, ?_⟩
      · congr 1; omega
      · simp [intOf]; omega
    · obtain rfl : k = 8 := by omega
      have hd : decide ((0 : Int) ≤ 7 - ((8 : Nat) : Int)) = false := by decide
      have hcv := conv_own hO'
      have e8 : bek 8 (n / 256 ^ (8 - 8)) = bek 8 n := by simp
      rw [e8] at hcv
      go_wp2_with fail
      go_ret
      exact ⟨rfl, hb⟩
theorem cat1 (c : UInt8) (l : List UInt8) : (⟨#[c]⟩ ++ ⟨l.toArray⟩ : ByteArray) = ⟨(c :: l).toArray⟩ := cat_str [c] l
set_option maxHeartbeats 1000000 in
theorem refOne_any (p : Pt) (hp : p.ok) (w : World) (hl : p.text.length ≤ 100000000) : Calls Try.prog 15 #[pv p] w fun e w' => e = .returned (str (ptx p)) ∧ Below w.heap.size w w' := by
  obtain ⟨k, t, n⟩ := p
  have hlo := hp.lo; have hhi := hp.hi; have his := hp.is
  dsimp only at hlo hhi his hl
  have hsg : IntKind.u64.signed = false := rfl
  have hx1 : bits BinOp.xor IntKind.u64 (n % 18446744073709551616) 9223372036854775808 = (tv 2 n : Int) := by
    have e1 : n % 18446744073709551616 = ((n % 18446744073709551616).toNat : Int) := by omega
    have e2 : tv 2 n = ((n % 18446744073709551616).toNat + 9223372036854775808) % 18446744073709551616 := by unfold tv; rw [if_neg (by decide)]; omega
    rw [e1, e2, ← xor63 _ (by omega)]
    exact u64_xor_nat _ 9223372036854775808 (by omega) (by decide)
  have hx1' : bits BinOp.xor IntKind.u64 (IntKind.u64.wrap n) 9223372036854775808 = (tv 2 n : Int) := by rw [IntKind.wrap_u64]; exact hx1
  clear hx1
  have ht2 := tv_lt (k := 2) hlo hhi
  have hx2 : bits BinOp.xor IntKind.u64 IntKind.u64.max (tv 2 n : Int) = (tv 3 n : Int) := by
    have e2 : tv 3 n = 18446744073709551615 - tv 2 n := by unfold tv; rw [if_pos rfl, if_neg (by decide)]; omega
    rw [e2, ← xor_all _ ht2]
    exact u64_xor_nat 18446744073709551615 _ (by decide) ht2
  have ht3 := tv_lt (k := 3) hlo hhi
  have hb0 := (Below.refl w.heap.size w).alloc (Nat.le_refl _) (Obj.cells #[Value.int IntKind.i64 k, str t, Value.int IntKind.i64 n] 43)
  have hc := fun w => refGroups_any t w hl
  have hn2 := fun w => refNumber_any (tv 2 n) ht2 w
  have hn3 := fun w => refNumber_any (tv 3 n) ht3 w
  have hk : k = 1 ∨ k = 2 ∨ k = 3 := ofKind hp
  rcases hk with rfl | rfl | rfl
  · have hpt : Hid (ptx ⟨1, t, n⟩ = 1 :: grp t) := ⟨rfl⟩
    have hgl : (grp t).length ≤ 1000000000 := by
      rw [grp_length]
      have : ngr t.length ≤ t.length / 8 + 1 := by unfold ngr; split <;> omega
      omega
    generalize grp t = G at *
    clear hn2 hn3 hx2
    go_enter Try.func15, Try.ntmps15
    go_wp2_with (go_at_call 24; refine (hc _).mono ?_; rintro e w1 ⟨rfl, hb1⟩)
    go_ret
    refine ⟨?_, hb0.trans (hb1.mono (by simp))⟩
    rw [hpt.out]
    exact congrArg Ending.returned (congrArg Value.string (cat1 1 G))
  · have hpt : Hid (ptx ⟨2, t, n⟩ = 2 :: bek 8 (tv 2 n)) := ⟨rfl⟩
    have hgl : (bek 8 (tv 2 n)).length ≤ 1000000000 := by rw [bek_length]; omega
    clear hn3 hx2 hc
    generalize bek 8 (tv 2 n) = G at *
    generalize tv 2 n = T at *
    go_enter Try.func15, Try.ntmps15
    go_wp2_with (go_at_call 25; refine (hn2 _).mono ?_; rintro e w1 ⟨rfl, hb1⟩)
    go_ret
    refine ⟨?_, hb0.trans (hb1.mono (by simp))⟩
    rw [hpt.out]
    exact congrArg Ending.returned (congrArg Value.string (cat1 2 G))
  · have hpt : Hid (ptx ⟨3, t, n⟩ = 3 :: bek 8 (tv 3 n)) := ⟨rfl⟩
    have hgl : (bek 8 (tv 3 n)).length ≤ 1000000000 := by rw [bek_length]; omega
    clear hn2 hc
    generalize bek 8 (tv 3 n) = G at *
    generalize tv 3 n = T3 at *
    generalize tv 2 n = T at *
    go_enter Try.func15, Try.ntmps15
    go_wp2_with (go_at_call 25; refine (hn3 _).mono ?_; rintro e w1 ⟨rfl, hb1⟩)
    go_ret
    refine ⟨?_, hb0.trans (hb1.mono (by simp))⟩
    rw [hpt.out]
    exact congrArg Ending.returned (congrArg Value.string (cat1 3 G))
end Go.Proofs.Ytijkabnhedmimab
