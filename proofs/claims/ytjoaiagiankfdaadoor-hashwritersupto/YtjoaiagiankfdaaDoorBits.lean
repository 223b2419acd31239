/- How the model's bits of a uint32 are those of a 'BitVec 32'; the turn to the right. -/
import Derived.Test.YtjoaiagiankfdaaDoorRows
import Derived.Test.YtjoaiagiankfdaaDoorMath
import Derived.WalkKit
import Derived.Laws.BitsAllLaws
import Derived.WalkSpells
import Derived.WalkLawsBesides
import Derived.Below
namespace Go.Proofs.YtjoaiagiankfdaaDoor
set_option linter.unusedVariables false
set_option linter.unusedSimpArgs false
open Go.RowKit
theorem bv_lt (x : BitVec 32) : x.toNat < 4294967296 := x.isLt
theorem xo_bv (x y : BitVec 32) : bits BinOp.xor IntKind.u32 (x.toNat : Int) (y.toNat : Int) = ((Sha.xo x y).toNat : Int) := by
  rw [u32_xor_nat _ _ (bv_lt x) (bv_lt y)]; unfold Sha.xo; rw [BitVec.toNat_xor]
theorem an_bv (x y : BitVec 32) : bits BinOp.and IntKind.u32 (x.toNat : Int) (y.toNat : Int) = ((Sha.an x y).toNat : Int) := by
  rw [u32_and_nat _ _ (bv_lt x) (bv_lt y)]; unfold Sha.an; rw [BitVec.toNat_and]
theorem no_bv (x : BitVec 32) : bits BinOp.xor IntKind.u32 IntKind.u32.max (x.toNat : Int) = ((Sha.no x).toNat : Int) := by
  have e : (Sha.no x : BitVec 32) = BitVec.allOnes 32 ^^^ x := by
    apply BitVec.eq_of_getLsbD_eq; intro i hi; unfold Sha.no; rw [BitVec.getLsbD_xor, BitVec.getLsbD_allOnes, BitVec.getLsbD_not, decide_eq_true hi, Bool.true_xor, Bool.true_and]
  rw [e, BitVec.toNat_xor, ← u32_xor_nat _ _ (bv_lt _) (bv_lt x)]; rfl
theorem ad_bv (x y : BitVec 32) : IntKind.u32.wrap ((x.toNat : Int) + (y.toNat : Int)) = ((Sha.ad x y).toNat : Int) := by
  rw [IntKind.wrap_u32]; unfold Sha.ad; rw [BitVec.toNat_add]; omega
theorem sr3_bv (x : BitVec 32) : (x.toNat : Int) / (8 : Int) = ((Sha.sr x 3).toNat : Int) := by
  unfold Sha.sr; rw [BitVec.toNat_ushiftRight, Nat.shiftRight_eq_div_pow]; rfl
theorem sr10_bv (x : BitVec 32) : (x.toNat : Int) / (1024 : Int) = ((Sha.sr x 10).toNat : Int) := by
  unfold Sha.sr; rw [BitVec.toNat_ushiftRight, Nat.shiftRight_eq_div_pow]; rfl
theorem mask_neg (n : Nat) (h0 : 0 < n) (h : n < 32) : bits BinOp.and IntKind.u64 (IntKind.u64.wrap (-(n : Int))) 31 = ((32 - n : Nat) : Int) := by
  have e : IntKind.u64.wrap (-(n : Int)) = ((18446744073709551616 - n : Nat) : Int) := by
    rw [IntKind.wrap_u64]; omega
  rw [e, show (31 : Int) = ((31 : Nat) : Int) from rfl, u64_and_nat _ _ (by omega) (by decide)]
  have : (18446744073709551616 - n) &&& 31 = (18446744073709551616 - n) % 32 := Nat.and_two_pow_sub_one_eq_mod _ 5
  rw [this]
  congr 1
  omega
theorem rr_bv (x : BitVec 32) (k n : Nat) (hn : n ≤ 32) (hk : k = 32 - n) : bits BinOp.or IntKind.u32 ((x.toNat : Int) * 2 ^ k % 4294967296) ((x.toNat : Int) / 2 ^ n) = ((Sha.rr x n).toNat : Int) := by
  subst hk
  have e1 : ((x.toNat : Int) * 2 ^ (32 - n) % 4294967296) = ((x.toNat * 2 ^ (32 - n) % 4294967296 : Nat) : Int) := by rw [Int.natCast_emod, Int.natCast_mul, Int.natCast_pow]; rfl
  have e2 : ((x.toNat : Int) / 2 ^ n) = ((x.toNat / 2 ^ n : Nat) : Int) := by push_cast; rfl
  have l := bv_lt x
  rw [e1, e2, u32_or_nat _ _ (Nat.mod_lt _ (by decide)) (Nat.lt_of_le_of_lt (Nat.div_le_self _ _) l)]
  unfold Sha.rr
  rw [BitVec.toNat_or, BitVec.toNat_shiftLeft, BitVec.toNat_ushiftRight, Nat.shiftLeft_eq, Nat.shiftRight_eq_div_pow]
set_option maxHeartbeats 400000 in
theorem rot (x : BitVec 32) (n : Nat) (h0 : 0 < n) (h : n < 32) (w : World) :
    Calls Tryd.prog 29 #[.int .u32 (x.toNat : Int), .int .i64 (n : Int)] w fun e w' => e = .returned (.int .u32 ((Sha.rr x n).toNat : Int)) ∧ w' = w := by
  have hm := mask_neg n h0 h
  obtain ⟨k, hk⟩ : ∃ k, k = 32 - n := ⟨_, rfl⟩
  rw [← hk] at hm
  have HK : Hid (k = 32 - n) := hk
  have h32 : k < 32 := by omega
  have HN : Hid (32 - k = n) := by show 32 - k = n; omega
  clear hk
  have hw : IntKind.u64.wrap (32 - (k : Int)) = ((32 - k : Nat) : Int) := by rw [IntKind.wrap_u64]; omega
  go_enter Tryd.func29, Tryd.ntmps29
  go_wp2
  go_ret
  refine ⟨?_, rfl⟩
  have e := rr_bv x k n (by omega) HK.out
  rw [HN.out]
  exact congrArg (fun z => Ending.returned (.int .u32 z)) e
end Go.Proofs.YtjoaiagiankfdaaDoor
