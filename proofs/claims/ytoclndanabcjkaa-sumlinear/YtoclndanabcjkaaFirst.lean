import Derived.Test.YtoclndanabcjkaaOn
namespace Go.Proofs.Ytoclndanabcjkaa
set_option linter.unusedVariables false
open Go.RowKit

theorem on_zero (s : ByteArray) (w : World) (hs : s.size ≤ maxLen) :
    Calls Try.prog 10 #[.int .u64 0, .string s] w fun e w' => e = .returned (.int .u64 ((Crc.on 0#64 s.data.toList).toNat : Int)) ∧ Below w.heap.size w w' :=
  on_any 0#64 s w hs

set_option maxHeartbeats 400000 in
theorem of_any (s : ByteArray) (w : World) (hs : s.size ≤ maxLen) :
    Calls Try.prog 9 #[.string s] w fun e w' => e = .returned (.int .u64 ((Crc.on 0#64 s.data.toList).toNat : Int)) ∧ Below w.heap.size w w' := by
  go_enter Try.func9, Try.ntmps9
  go_wp2_with fail
  refine (on_zero _ _ hs).mono ?_
  rintro e w1 ⟨rfl, hb⟩
  go_wp2
  go_ret
  exact ⟨rfl, hb⟩

theorem of_nine (w : World) : Calls Try.prog 9 #[.string ⟨#[49, 50, 51, 52, 53, 54, 55, 56, 57]⟩] w fun e w' => e = .returned (.int .u64 11051210869376104954) ∧ Below w.heap.size w w' := by
  refine (of_any _ w (by decide +kernel)).mono ?_
  rintro e w' ⟨rfl, hb⟩
  exact ⟨ret_u64 (by decide +kernel), hb⟩
theorem of_four (w : World) : Calls Try.prog 9 #[.string ⟨#[49, 50, 51, 52]⟩] w fun e w' => e = .returned (.int .u64 14865968487149912872) ∧ Below w.heap.size w w' := by
  refine (of_any _ w (by decide +kernel)).mono ?_
  rintro e w' ⟨rfl, hb⟩
  exact ⟨ret_u64 (by decide +kernel), hb⟩
theorem on_five (w : World) : Calls Try.prog 10 #[.int .u64 14865968487149912872, .string ⟨#[53, 54, 55, 56, 57]⟩] w fun e w' => e = .returned (.int .u64 11051210869376104954) ∧ Below w.heap.size w w' := by
  have h := on_any 14865968487149912872#64 ⟨#[53, 54, 55, 56, 57]⟩ w (by decide +kernel)
  have e1 : ((14865968487149912872#64 : BitVec 64).toNat : Int) = 14865968487149912872 := by decide +kernel
  rw [e1] at h
  refine h.mono ?_
  rintro e w' ⟨rfl, hb⟩
  exact ⟨ret_u64 (by decide +kernel), hb⟩
theorem on_none (w : World) : Calls Try.prog 10 #[.int .u64 5, .string ⟨#[]⟩] w fun e w' => e = .returned (.int .u64 5) ∧ Below w.heap.size w w' := by
  have h := on_any 5#64 ⟨#[]⟩ w (by decide +kernel)
  have e1 : ((5#64 : BitVec 64).toNat : Int) = 5 := by decide +kernel
  rw [e1] at h
  refine h.mono ?_
  rintro e w' ⟨rfl, hb⟩
  exact ⟨ret_u64 (by decide +kernel), hb⟩

set_option maxHeartbeats 400000 in
theorem first_any (w : World) : Calls Try.prog 8 #[] w fun e w' => e = .returned (.bool true) ∧ Below w.heap.size w w' := by
  go_enter Try.func8, Try.ntmps8
  go_wp2_with fail
  refine (of_nine _).mono ?_
  rintro e w1 ⟨rfl, b1⟩
  go_wp2_with fail
  refine (of_four _).mono ?_
  rintro e w2 ⟨rfl, b2⟩
  go_wp2_with fail
  refine (on_five _).mono ?_
  rintro e w3 ⟨rfl, b3⟩
  go_wp2_with fail
  refine (on_none _).mono ?_
  rintro e w4 ⟨rfl, b4⟩
  go_wp2_with fail
  go_ret
  exact ⟨rfl, ((b1.trans (b2.mono b1.size)).trans (b3.mono (Nat.le_trans b1.size b2.size))).trans (b4.mono (Nat.le_trans (Nat.le_trans b1.size b2.size) b3.size))⟩
end Go.Proofs.Ytoclndanabcjkaa
