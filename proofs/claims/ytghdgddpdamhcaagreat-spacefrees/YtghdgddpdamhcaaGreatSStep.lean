import Derived.Test.YtghdgddpdamhcaaGreatRows
import Derived.Test.YtghdgddpdamhcaaGreatSBits
import Derived.WalkSpells
import Derived.WalkLawsBesides
import Derived.Below
namespace Go.Proofs.YtghdgddpdamhcaaGreat.Sum
set_option linter.unusedVariables false
open Go.RowKit

set_option maxHeartbeats 400000 in
theorem step_any (x : BitVec 64) (w : World) :
    Calls Tryz.prog 140 #[.int .u64 (x.toNat : Int)] w fun e w' => e = .returned (.int .u64 ((Crc.step x).toNat : Int)) ∧ w' = w := by
  have ho := step_odd x
  have he := step_even x
  cases h : (bits BinOp.and IntKind.u64 (x.toNat : Int) 1 == 1)
  · have H : Hid _ := he h
    clear ho he
    go_enter Tryz.func140, Tryz.ntmps140
    go_wp2
    go_ret
    exact ⟨ret_u64 H.out, rfl⟩
  · have H : Hid _ := ho h
    clear ho he
    go_enter Tryz.func140, Tryz.ntmps140
    go_wp2
    go_ret
    exact ⟨ret_u64 H.out, rfl⟩

def tabTo (k : Nat) : Array Value := (Array.range 16).map fun j => .int .u64 (if j < k then ((Crc.four j).toNat : Int) else 0)
theorem tabTo_0 : tabTo 0 = #[.int .u64 0, .int .u64 0, .int .u64 0, .int .u64 0, .int .u64 0, .int .u64 0, .int .u64 0, .int .u64 0, .int .u64 0, .int .u64 0, .int .u64 0, .int .u64 0, .int .u64 0, .int .u64 0, .int .u64 0, .int .u64 0] := by
  kernel_rfl
theorem tabTo_16 : tabTo 16 = #[.int .u64 ((Crc.four 0).toNat : Int), .int .u64 ((Crc.four 1).toNat : Int), .int .u64 ((Crc.four 2).toNat : Int), .int .u64 ((Crc.four 3).toNat : Int), .int .u64 ((Crc.four 4).toNat : Int), .int .u64 ((Crc.four 5).toNat : Int), .int .u64 ((Crc.four 6).toNat : Int), .int .u64 ((Crc.four 7).toNat : Int), .int .u64 ((Crc.four 8).toNat : Int), .int .u64 ((Crc.four 9).toNat : Int), .int .u64 ((Crc.four 10).toNat : Int), .int .u64 ((Crc.four 11).toNat : Int), .int .u64 ((Crc.four 12).toNat : Int), .int .u64 ((Crc.four 13).toNat : Int), .int .u64 ((Crc.four 14).toNat : Int), .int .u64 ((Crc.four 15).toNat : Int)] := by
  kernel_rfl
theorem tabTo_size (k : Nat) : (tabTo k).size = 16 := by simp [tabTo]
theorem tabTo_get (k i : Nat) (h : i < (tabTo k).size) : (tabTo k)[i] = .int .u64 (if i < k then ((Crc.four i).toNat : Int) else 0) := by
  simp only [tabTo, Array.getElem_map, Array.getElem_range]
theorem tabTo_succ (k : Nat) (h : k < 16) : (tabTo k).setIfInBounds k (.int .u64 ((Crc.four k).toNat : Int)) = tabTo (k + 1) := by
  apply Array.ext
  · rw [Array.size_setIfInBounds, tabTo_size, tabTo_size]
  · intro i h1 h2
    have hi : i < (tabTo k).size := by rw [tabTo_size] at *; exact h2
    rw [Array.getElem_setIfInBounds hi, tabTo_get, tabTo_get]
    by_cases e : k = i
    · subst e; simp
    · rw [if_neg e]
      by_cases e2 : i < k
      · rw [if_pos e2, if_pos (by omega)]
      · rw [if_neg e2, if_neg (by omega)]
theorem stepN_last (n : Nat) (x : BitVec 64) : Crc.step (Crc.stepN n x) = Crc.stepN (n + 1) x := by
  rw [Crc.stepN_add n 1]; rfl
theorem start_k (k : Nat) (h : k < 16) : ((k : Nat) : Int) = ((Crc.stepN 0 (BitVec.ofNat 64 k)).toNat : Int) := by
  simp only [Crc.stepN]; rw [BitVec.toNat_ofNat]; omega

set_option maxHeartbeats 400000 in
theorem four_any (w : World) :
    Calls Tryz.prog 139 #[] w fun e w' => e = .returned (.agg (tabTo 16)) ∧ Below w.heap.size w w' := by
  go_enter Tryz.func139, Tryz.ntmps139
  go_wp2_with fail
  rw [← tabTo_0]
  go_loopw [4] (fun i wr => ∃ k : Nat, k ≤ 16 ∧ i = .int .i64 k ∧ wr = (w.alloc (.cells (tabTo 0) 177)).alloc (.cells (tabTo k) 177)) (fun i _ => 16 - (intOf i).toNat)
  case atStart => exact ⟨0, Nat.zero_le _, rfl, rfl⟩
  case round =>
    obtain ⟨k, hk, rfl, rfl⟩ := hrel
    have hz := tabTo_size k
    by_cases hlt : k < 16
    · have hd : decide ((k : Int) < 16) = true := by simp; omega
      go_wp2_with fail
      go_loop [3, 9] (fun x j => ∃ n : Nat, n ≤ 4 ∧ j = .int .i64 n ∧ x = .int .u64 ((Crc.stepN n (BitVec.ofNat 64 k)).toNat : Int)) (fun _ j => 4 - (intOf j).toNat)
      case atStart => exact ⟨0, by omega, rfl, congrArg (Value.int .u64) (start_k k hlt)⟩
      case round =>
        obtain ⟨n, hn, rfl, rfl⟩ := hrel
        by_cases hln : n < 4
        · go_wp2_with (go_at_call 140; refine (step_any _ _).mono ?_; rintro e w' ⟨rfl, rfl⟩)
          go_round
          case rel => exact ⟨n + 1, by omega, by go_num, by rw [stepN_last]⟩
          case measure => simp [intOf]; omega
        · obtain rfl : n = 4 := by omega
          go_wp2_with fail
          exact ⟨⟨k + 1, by omega, by go_num, by rw [← tabTo_succ k hlt]; rfl⟩, by simp [intOf]; omega⟩
    · obtain rfl : k = 16 := by omega
      clear hz
      rw [tabTo_16, tabTo_0]
      go_wp2_with fail
      refine bodyPost_ret (v := .agg (tabTo 16)) ?_ rfl ⟨rfl, ?_⟩
      · rw [tabTo_16]; simp [results, Tryz.results139, go_sem]
      · exact ((Below.refl _ _).alloc (Nat.le_refl _) _).alloc (by simp) _
end Go.Proofs.YtghdgddpdamhcaaGreat.Sum
