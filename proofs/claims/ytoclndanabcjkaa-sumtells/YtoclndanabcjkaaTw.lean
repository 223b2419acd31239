import Derived.Test.YtoclndanabcjkaaTp
namespace Go.Proofs.Ytoclndanabcjkaa
set_option linter.unusedVariables false
open Go.RowKit
namespace sumTells
set_option maxHeartbeats 400000 in
theorem walk (s : ByteArray) (a : Int) (x : BitVec 64) (hs : s.size ≤ 140737488351232) (ha : (Lit.int .i64 a).wf = true) (w : World) :
    Calls Try.prog 4 #[.string s, .int .i64 a, .int .u64 (x.toNat : Int)] w fun e w' => e = .returned (.bool true) ∧ Below w.heap.size w w' := by
  have ms : s.size ≤ maxLen := by unfold maxLen; omega
  have hcv := fun w => run_bytes_of_string (P := Try.prog) w 9 28 5 s Try.underlying9 Try.underlying28 Try.underlying5
  cases he : s.toList.isEmpty
  · have hne : ¬ s = ByteArray.empty := by
      intro h; subst h; revert he; decide +kernel
    have hp : 0 < s.size := by
      rw [toList_empty, decide_eq_false_iff_not] at he; omega
    go_enter Try.func4, Try.ntmps4
    go_wp2_with fail
    refine (first_any _).mono ?_
    rintro e w1 ⟨rfl, b1⟩
    go_wp2_with fail
    obtain ⟨A, hA, eA⟩ := at_of a s.size hp hs
    rw [eA]
    clear eA
    have hR := row_new w1 s (grownCap w1 s.size 0 5)
    have hbel : Below w.heap.size w (w1.alloc (.cells (bytesRow s (grownCap w1 s.size 0 5)) 5 ((bytesRow s (grownCap w1 s.size 0 5)).size, (bytesRow s (grownCap w1 s.size 0 5)).size + 1))).drew := (b1.alloc b1.size _).drew
    have hB := b1.size
    generalize (w1.alloc (.cells (bytesRow s (grownCap w1 s.size 0 5)) 5 ((bytesRow s (grownCap w1 s.size 0 5)).size, (bytesRow s (grownCap w1 s.size 0 5)).size + 1))).drew = W at *
    generalize grownCap w1 s.size 0 5 = cp
    generalize w1.heap.size = B at *
    clear hcv b1 w1
    go_loopw [8, 9] (fun c i wr => ∃ k : Nat, k ≤ 8 ∧ A + k ≤ s.size ∧ i = .int .i64 k ∧ c = .bool (Crc.changed x k) ∧ Row wr B (Crc.turned s.data.toList A x k) ∧ Below w.heap.size w wr) (fun _ i _ => 8 - (intOf i).toNat)
    case atStart => exact ⟨0, by omega, by omega, rfl, rfl, by rw [Crc.turned_zero]; exact hR, hbel⟩
    case round =>
      obtain ⟨k, hk, hAk, rfl, rfl, hrow, hbr⟩ := hrel
      clear hR hbel
      by_cases hgo : k < 8 ∧ A + k < s.size
      · obtain ⟨h8, hlt⟩ := hgo
        have hlen : A + k < (Crc.turned s.data.toList A x k).length := by rw [Crc.turned_length]; simpa using hlt
        obtain ⟨hc, hf⟩ := hrow (A + k) hlen
        have HT : Hid _ := Crc.turned_succ s.data.toList A x k hlen
        have HR : Hid (Row _ B _) := hrow.set (A + k) hlen ((Crc.turned s.data.toList A x k)[A + k] ^^^ Crc.byteOf x k)
        clear hrow
        generalize (Crc.turned s.data.toList A x k)[A + k] = v at *
        cases hch : Crc.changed x k
        · go_wp2_with fail
          rw [byteOf_bv, byte_xor_u8]
          exact ⟨⟨k + 1, by omega, by omega, by go_num, chg_f hch, by rw [HT.out]; exact HR.out, hbr.setCell hB _⟩, by simp [intOf]; omega⟩
        · go_wp2_with fail
          rw [byteOf_bv, byte_xor_u8]
          exact ⟨⟨k + 1, by omega, by omega, by go_num, chg_t hch, by rw [HT.out]; exact HR.out, hbr.setCell hB _⟩, by simp [intOf]; omega⟩
      · have hlen : (Crc.turned s.data.toList A x k).length = s.size := by rw [Crc.turned_length]; simp
        have hbk := row_back hrow cp s.size hlen
        have ht := told_bool s.data.toList A x k (by simpa using hAk) hk
        have hml : (Crc.turned s.data.toList A x k).length ≤ maxLen := by rw [hlen]; exact ms
        clear hrow hlen
        generalize Crc.turned s.data.toList A x k = L at *
        generalize Crc.changed x k = ch at *
        by_cases h8 : k < 8
        all_goals
          go_wp2_with fail
          refine (of_list L _ hml).mono ?_
          rintro e w2 ⟨rfl, b2⟩
          go_wp2_with fail
          refine (of_any s _ ms).mono ?_
          rintro e w3 ⟨rfl, b3⟩
          go_wp2_with fail
          go_ret
          exact ⟨rfl, below_seq (below_seq hbr b2) b3⟩
  · go_enter Try.func4, Try.ntmps4
    go_wp2_with fail
    refine (first_any _).mono ?_
    rintro e w1 ⟨rfl, b1⟩
    go_wp2_with fail
    go_ret
    exact ⟨rfl, b1⟩
end sumTells
end Go.Proofs.Ytoclndanabcjkaa
