/- How the model's bits of a uint64 are bits of a 'BitVec 64'. -/
import Derived.Test.YtghdgddpdamhcaaGreatSMath
import Derived.WalkKit
import Derived.Laws.BitsAllLaws
namespace Go.Proofs.YtghdgddpdamhcaaGreat.Sum
open Go.RowKit

theorem bv_lt (x : BitVec 64) : x.toNat < 18446744073709551616 := x.isLt
theorem xor_bv (x y : BitVec 64) : bits BinOp.xor IntKind.u64 (x.toNat : Int) (y.toNat : Int) = ((x ^^^ y).toNat : Int) := by
  rw [u64_xor_nat _ _ (bv_lt x) (bv_lt y), BitVec.toNat_xor]
theorem shr_bv (x : BitVec 64) : (x.toNat : Int) / (16 : Int) = ((x >>> 4).toNat : Int) := by
  rw [BitVec.toNat_ushiftRight, Nat.shiftRight_eq_div_pow]; rfl
theorem shr1_bv (x : BitVec 64) : (x.toNat : Int) / (2 : Int) = ((x >>> 1).toNat : Int) := by
  rw [BitVec.toNat_ushiftRight, Nat.shiftRight_eq_div_pow]; rfl
theorem and15_bv (x : BitVec 64) : bits BinOp.and IntKind.u64 (x.toNat : Int) 15 = ((x.toNat % 16 : Nat) : Int) := by
  have := u64_and_nat x.toNat 15 (bv_lt x) (by decide)
  rw [nat_mask4] at this
  exact this
theorem and1_bv (x : BitVec 64) : bits BinOp.and IntKind.u64 (x.toNat : Int) 1 = ((x.toNat % 2 : Nat) : Int) := by
  have := u64_and_nat x.toNat 1 (bv_lt x) (by decide)
  rw [nat_mask1] at this
  exact this
theorem lay_bv (x : BitVec 64) (b : UInt8) : bits BinOp.xor IntKind.u64 (x.toNat : Int) (b.toNat : Int) = ((Crc.lay x b).toNat : Int) := by
  unfold Crc.lay
  have hb : b.toNat < 256 := b.toNat_lt
  have e : (BitVec.ofNat 64 b.toNat).toNat = b.toNat := by rw [BitVec.toNat_ofNat]; omega
  rw [← xor_bv, e]
theorem poly_bv (x : BitVec 64) : bits BinOp.xor IntKind.u64 (x.toNat : Int) 14514072000185962306 = ((x ^^^ Crc.poly).toNat : Int) := by
  rw [← xor_bv]; rfl
theorem low_bit (x : BitVec 64) : x.getLsbD 0 = decide (x.toNat % 2 = 1) := by
  rw [BitVec.getLsbD, Nat.testBit_zero]
theorem step_odd (x : BitVec 64) (h : (bits BinOp.and IntKind.u64 (x.toNat : Int) 1 == 1) = true) : bits BinOp.xor IntKind.u64 ((x.toNat : Int) / (2 : Int)) 14514072000185962306 = ((Crc.step x).toNat : Int) := by
  rw [and1_bv, beq_iff_eq] at h
  have h0 : x.getLsbD 0 = true := by rw [low_bit, decide_eq_true_iff]; omega
  rw [shr1_bv, poly_bv]
  unfold Crc.step
  rw [h0, if_pos rfl]
theorem step_even (x : BitVec 64) (h : (bits BinOp.and IntKind.u64 (x.toNat : Int) 1 == 1) = false) : (x.toNat : Int) / (2 : Int) = ((Crc.step x).toNat : Int) := by
  rw [and1_bv, beq_eq_false_iff_ne] at h
  have h0 : x.getLsbD 0 = false := by rw [low_bit, decide_eq_false_iff_not]; omega
  rw [shr1_bv, Crc.step_even h0]
theorem half_bv (x : BitVec 64) : x >>> 4 ^^^ Crc.four (x.toNat % 16) = Crc.stepN 4 x := Crc.half x
theorem eight_bv (x : BitVec 64) : Crc.stepN 4 (Crc.stepN 4 x) = Crc.stepN 8 x := (Crc.stepN_add 4 4 x).symm
theorem not_bv (x : BitVec 64) : bits BinOp.xor IntKind.u64 IntKind.u64.max (x.toNat : Int) = ((~~~ x).toNat : Int) := by
  have e : (~~~ x : BitVec 64) = BitVec.allOnes 64 ^^^ x := by
    apply Crc.ext; intro i hi; rw [BitVec.getLsbD_xor, BitVec.getLsbD_allOnes, BitVec.getLsbD_not, decide_eq_true hi, Bool.true_xor, Bool.true_and]
  rw [e, ← xor_bv]; rfl
theorem byte_bv (b : UInt8) : IntKind.u64.wrap (b.toNat : Int) = (b.toNat : Int) := by
  have hb : b.toNat < 256 := b.toNat_lt
  rw [IntKind.wrap_u64]; omega
theorem take_snoc (s : ByteArray) (k : Nat) (h : k < s.size) : s.data.toList.take (k + 1) = s.data.toList.take k ++ [s[k]] := by
  rw [List.take_succ_eq_append_getElem (by simpa using h)]; rfl
theorem onX_snoc (x : BitVec 64) (l : List UInt8) (b : UInt8) : Crc.onX x (l ++ [b]) = Crc.stepN 8 (Crc.lay (Crc.onX x l) b) := by
  rw [Crc.onX_append]; rfl
theorem ret_u64 {k : IntKind} {a b : Int} (h : a = b) : Ending.returned (.int k a) = .returned (.int k b) := by rw [h]

end Go.Proofs.YtghdgddpdamhcaaGreat.Sum
