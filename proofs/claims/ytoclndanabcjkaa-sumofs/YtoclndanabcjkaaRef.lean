import Derived.Test.YtoclndanabcjkaaOn
namespace Go.Proofs.Ytoclndanabcjkaa
set_option linter.unusedVariables false
open Go.RowKit
attribute [local go_sem] inv_bv lay_bv byte_bv

theorem odd_next (n : Nat) (x : BitVec 64) (h : (bits BinOp.and IntKind.u64 ((Crc.stepN n x).toNat : Int) 1 == 1) = true) : bits BinOp.xor IntKind.u64 (((Crc.stepN n x).toNat : Int) / (2 : Int)) 14514072000185962306 = ((Crc.stepN (n + 1) x).toNat : Int) := by
  rw [step_odd _ h, stepN_last]
theorem even_next (n : Nat) (x : BitVec 64) (h : (bits BinOp.and IntKind.u64 ((Crc.stepN n x).toNat : Int) 1 == 1) = false) : ((Crc.stepN n x).toNat : Int) / (2 : Int) = ((Crc.stepN (n + 1) x).toNat : Int) := by
  rw [step_even _ h, stepN_last]

set_option maxHeartbeats 800000 in
theorem refOn_any (x : BitVec 64) (s : ByteArray) (w : World) (hs : s.size ≤ maxLen) :
    Calls Try.prog 12 #[.int .u64 (x.toNat : Int), .string s] w fun e w' => e = .returned (.int .u64 ((Crc.on x s.data.toList).toNat : Int)) ∧ w' = w := by
  unfold maxLen at hs
  go_enter Try.func12, Try.ntmps12
  go_wp2_with fail
  go_loop [5, 6] (fun y i => ∃ k : Nat, k ≤ s.size ∧ i = .int .i64 k ∧ y = .int .u64 ((Crc.onX (inv x) (s.data.toList.take k)).toNat : Int)) (fun _ i => s.size - (intOf i).toNat)
  case atStart => exact ⟨0, Nat.zero_le _, rfl, rfl⟩
  case round =>
    obtain ⟨k, hk, rfl, rfl⟩ := hrel
    by_cases hlt : k < s.size
    · have HS : Hid (Crc.onX (inv x) (s.data.toList.take (k + 1)) = Crc.stepN 8 (Crc.lay (Crc.onX (inv x) (s.data.toList.take k)) s[k])) := by rw [take_snoc s k hlt]; exact onX_snoc _ _ _
      have hd : decide ((k : Int) < s.size) = true := by simp; omega
      go_wp2_with fail
      generalize Crc.lay (Crc.onX (inv x) (s.data.toList.take k)) s[k] = z at *
      go_loop [5, 7] (fun y j => ∃ n : Nat, n ≤ 8 ∧ j = .int .i64 n ∧ y = .int .u64 ((Crc.stepN n z).toNat : Int)) (fun _ j => 8 - (intOf j).toNat)
      case atStart => exact ⟨0, by omega, rfl, rfl⟩
      case round =>
        obtain ⟨n, hn, rfl, rfl⟩ := hrel
        by_cases hln : n < 8
        · cases hbit : (bits BinOp.and IntKind.u64 ((Crc.stepN n z).toNat : Int) 1 == 1)
          · have HE : Hid _ := even_next n z hbit
            go_wp2_with fail
            go_round
            case rel => exact ⟨n + 1, by omega, by go_num, by rw [HE.out]⟩
            case measure => simp [intOf]; omega
          · have HE : Hid _ := odd_next n z hbit
            go_wp2_with fail
            go_round
            case rel => exact ⟨n + 1, by omega, by go_num, by rw [HE.out]⟩
            case measure => simp [intOf]; omega
        · obtain rfl : n = 8 := by omega
          go_wp2_with fail
          go_round
          case rel => exact ⟨k + 1, by omega, by go_num, by rw [HS.out]⟩
          case measure => simp [intOf]; omega
    · have HS : Hid (Crc.onX (inv x) (s.data.toList.take k) = Crc.onX (inv x) s.data.toList) := by rw [List.take_of_length_le (by simp; omega)]; rfl
      go_wp2
      go_ret
      exact ⟨ret_u64 (by rw [HS.out, on_inv]), rfl⟩

theorem refOn_zero (s : ByteArray) (w : World) (hs : s.size ≤ maxLen) :
    Calls Try.prog 12 #[.int .u64 0, .string s] w fun e w' => e = .returned (.int .u64 ((Crc.on 0#64 s.data.toList).toNat : Int)) ∧ w' = w :=
  refOn_any 0#64 s w hs
set_option maxHeartbeats 400000 in
theorem refOf_any (s : ByteArray) (w : World) (hs : s.size ≤ maxLen) :
    Calls Try.prog 11 #[.string s] w fun e w' => e = .returned (.int .u64 ((Crc.on 0#64 s.data.toList).toNat : Int)) ∧ w' = w := by
  go_enter Try.func11, Try.ntmps11
  go_wp2_with fail
  refine (refOn_zero _ _ hs).mono ?_
  rintro e w1 ⟨rfl, rfl⟩
  go_wp2
  go_ret
  exact ⟨rfl, rfl⟩
end Go.Proofs.Ytoclndanabcjkaa
