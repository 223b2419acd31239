/- A sector of the letter x; masks. -/
import Derived.Test.YtmcdohpeibipkaaFst
namespace Go.Proofs.Ytmcdohpeibipkaa
set_option linter.unusedVariables false
set_option linter.unusedSimpArgs false
open Go.RowKit
theorem i64_mask (k : Nat) (hk : k ≤ 32) (n : Int) : bits .and .i64 n ((2 ^ k - 1 : Nat) : Int) = n % (2 ^ k : Nat) := by
  have hp : 2 ^ k ≤ 2 ^ 32 := Nat.pow_le_pow_right (by decide) hk
  have hp0 : 0 < 2 ^ k := Nat.pow_pos (by decide)
  have e1 : (BitVec.ofInt 64 ((2 ^ k - 1 : Nat) : Int)).toNat = 2 ^ k - 1 := by rw [BitVec.toNat_ofInt]; omega
  show IntKind.i64.wrap ((BitVec.ofInt 64 n &&& BitVec.ofInt 64 ((2 ^ k - 1 : Nat) : Int)).toNat : Int) = _
  rw [BitVec.toNat_and, e1, Nat.and_two_pow_sub_one_eq_mod, BitVec.toNat_ofInt, IntKind.wrap_i64]
  have e2 : ((n % ((2 : Nat) ^ 64 : Nat)).toNat % 2 ^ k : Nat) = (n % (2 ^ k : Nat)).toNat := by
    have hd : (2 ^ k : Nat) ∣ 2 ^ 64 := Nat.pow_dvd_pow 2 (by omega)
    have h1 : 0 ≤ n % ((2 : Nat) ^ 64 : Nat) := Int.emod_nonneg _ (by decide)
    have h2 : (((n % ((2 : Nat) ^ 64 : Nat)).toNat % 2 ^ k : Nat) : Int) = n % (2 ^ k : Nat) := by
      rw [Int.natCast_emod, Int.toNat_of_nonneg h1, Int.emod_emod_of_dvd]
      exact Int.natCast_dvd_natCast.2 hd
    omega
  rw [e2]
  have h3 : 0 ≤ n % ((2 ^ k : Nat) : Int) := Int.emod_nonneg _ (by omega)
  have h4 : n % ((2 ^ k : Nat) : Int) < ((2 ^ k : Nat) : Int) := Int.emod_lt_of_pos _ (by omega)
  omega
theorem mask15 (n : Int) : ∃ m : Nat, m ≤ 15 ∧ bits .and .i64 n 15 = (m : Int) := by
  have := i64_mask 4 (by decide) n
  exact ⟨(n % 16).toNat, by omega, this.trans (by omega)⟩
theorem mask31 (n : Int) : ∃ m : Nat, m ≤ 31 ∧ bits .and .i64 n 31 = (m : Int) := by
  have := i64_mask 5 (by decide) n
  exact ⟨(n % 32).toNat, by omega, this.trans (by omega)⟩
theorem mask63 (n : Int) : ∃ m : Nat, m ≤ 63 ∧ bits .and .i64 n 63 = (m : Int) := by
  have := i64_mask 6 (by decide) n
  exact ⟨(n % 64).toNat, by omega, this.trans (by omega)⟩
def xk (k : Nat) : List UInt8 := List.replicate k 120 ++ List.replicate (512 - k) 0
theorem xk_length (k : Nat) (h : k ≤ 512) : (xk k).length = 512 := by simp [xk]; omega
theorem xk_step (k : Nat) (h : k < 512) : (vals (xk k)).set k (.int .u8 120) = vals (xk (k + 1)) := by
  have e : (vals (xk k)).set k (.int .u8 120) = vals ((xk k).set k 120) := by unfold vals; rw [List.map_set]; rfl
  rw [e]
  congr 1
  unfold xk
  rw [List.set_append_right _ _ (by simp), List.length_replicate, Nat.sub_self]
  have e2 : 512 - k = (512 - (k + 1)) + 1 := by omega
  rw [e2, List.replicate_succ, List.set_cons_zero, List.replicate_succ' (n := k), List.append_assoc]
  rfl
set_option maxRecDepth 100000 in
theorem xs_any (w : World) : Calls Try.prog 17 #[] w fun e w' => e = .returned (.string (fl 120)) ∧ Below w.heap.size w w' := by
  obtain ⟨i0, hi0, hz0, hz1, hz2⟩ := info5
  obtain ⟨w', hmk, o1, c⟩ := run_makeSlice_full (P := Try.prog) w 0 78 5 i0 _ 1 Try.underlying78 hi0 hz0 hz1 .i64 .i64 512 (by omega) (by rw [hz2]; omega) (by unfold maxLen; omega) (Nat.zero_le _)
  have b1 : Hid (Below w.heap.size w w') := ⟨(Below.refl _ _).grown c (Nat.le_refl _) (fun k hk => by cases hk)⟩
  have e : (madeCells (Value.int .u8 0).cells (512 * 1)).toList = vals (xk 0) := by
    show (madeCells #[Value.int .u8 0] (512 * 1)).toList = _
    rw [toList_madeCells_one]
    show List.replicate (512 * 1) (Value.int .u8 0) = vals ([] ++ List.replicate (512 - 0) 0)
    rw [List.nil_append, vals, List.map_replicate]
    rfl
  rw [e] at o1
  have O1 : Hid (w'.ownsRow 0 5 1 (rw_ w.heap.size 512 512) 512 (vals (xk 0))) := ⟨o1⟩
  have hmk' : (Instr.makeSlice 78 (.int .i64 512) (.int .i64 512)).run Try.prog w = .ok (.slice (some ⟨w.heap.size, 0, none⟩) 512 512) w' := hmk
  have HF : Hid (fl 120 = ⟨(xk 512).toArray⟩) := ⟨by unfold xk fl; rw [Nat.sub_self]; simp⟩
  generalize fl 120 = F at *
  clear hmk o1 e c hi0 hz0 hz1 hz2
  go_enter Try.func17, Try.ntmps17
  go_wp2_with fail
  go_loopw [2] (fun i wr => ∃ k : Nat, k ≤ 512 ∧ i = .int .i64 (k : Int) ∧ Hid (wr.ownsRow 0 5 1 (rw_ w.heap.size 512 512) 512 (vals (xk k))) ∧ Hid (Below w.heap.size w wr)) (fun i _ => 512 - (intOf i).toNat)
  case atStart => exact ⟨0, by omega, rfl, O1, b1⟩
  case round =>
    obtain ⟨k, hk, rfl, O, B⟩ := hrel
    by_cases hlt : k < 512
    · have hi : (k : Int) < 512 := by omega
      have hw1 : wrap64 ((k : Int) + 1) = ((k + 1 : Nat) : Int) := by unfold wrap64; omega
      have HST := xk_step k hlt
      obtain ⟨u0, hc0⟩ : ∃ v, wr.cell? ⟨w.heap.size, k, none⟩ = some v := by
        rw [O.out.cellAt k (by omega), List.getElem?_eq_getElem (by rw [vals_length, xk_length _ hk]; omega)]
        exact ⟨_, rfl⟩
      have f0 := O.out.frozenAt k
      have O2 : Hid ((wr.setCell ⟨w.heap.size, k, none⟩ (.int .u8 120)).ownsRow 0 5 1 (rw_ w.heap.size 512 512) 512 (vals (xk (k + 1)))) := ⟨by
        obtain ⟨o2, _⟩ := O.out.stored k (.int .u8 120)
        rwa [HST] at o2⟩
      have B2 : Hid (Below w.heap.size w (wr.setCell ⟨w.heap.size, k, none⟩ (.int .u8 120))) := ⟨B.out.setCell (Nat.le_refl _) _⟩
      clear HST O B O1 b1
      go_wp2
      go_roundw
      case rel => exact ⟨k + 1, by omega, by go_num, O2, B2⟩
      case measure => simp [intOf]; omega
    · obtain rfl : k = 512 := by omega
      have hcv := conv_own (base := 0) (w := wr) (v := rw_ w.heap.size 512 512) (l := xk 512) (by rw [xk_length _ (by omega)]; exact O.out)
      rw [← HF.out] at hcv
      go_wp2
      go_ret
      exact ⟨rfl, B.out⟩
end Go.Proofs.Ytmcdohpeibipkaa
