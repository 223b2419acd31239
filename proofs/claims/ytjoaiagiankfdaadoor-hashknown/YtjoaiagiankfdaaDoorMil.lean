/- The hash of a million letters a. -/
import Derived.Test.YtjoaiagiankfdaaDoorMil0
import Derived.Test.YtjoaiagiankfdaaDoorMil1
import Derived.Test.YtjoaiagiankfdaaDoorMil2
import Derived.Test.YtjoaiagiankfdaaDoorMil3
import Derived.Test.YtjoaiagiankfdaaDoorMil4
import Derived.Test.YtjoaiagiankfdaaDoorHead
namespace Go.Proofs.YtjoaiagiankfdaaDoor.Sha
set_option linter.unusedVariables false
set_option linter.unusedSimpArgs false
def fA (_ : Nat) : UInt8 := 97
def wA : Nat → W := wt fA
theorem kwA_len : kwA.length = 64 := by decide +kernel
theorem kwA_ok : ∀ i, i < 64 → kwA.getD i 0 % 4294967296 = ((kt i).toNat + (wA i).toNat) % 4294967296 := by decide +kernel
theorem kwA_get (i : Nat) (hi : i < kwA.length) : kwA[i] % 4294967296 = ((kt i).toNat + (wA i).toNat) % 4294967296 := by
  have := kwA_ok i (by rw [kwA_len] at hi; exact hi)
  rw [List.getD_eq_getElem?_getD, List.getElem?_eq_getElem hi] at this
  exact this
theorem step (n : Nat) (s r : S8) (q : itr (cw wA) n iv = s) (m : blksS kwA 625 (toN s) = toN r) : itr (cw wA) (n + 625) iv = r := by
  rw [itr_add, q]
  apply toN_inj
  rw [← blksS_iter wA kwA kwA_len kwA_get 625 s, m]
theorem q0 : itr (cw wA) 0 iv = sv0 := by decide +kernel
theorem q1 : itr (cw wA) 625 iv = sv1 := step 0 sv0 sv1 q0 m0
theorem q2 : itr (cw wA) 1250 iv = sv2 := step 625 sv1 sv2 q1 m1
theorem q3 : itr (cw wA) 1875 iv = sv3 := step 1250 sv2 sv3 q2 m2
theorem q4 : itr (cw wA) 2500 iv = sv4 := step 1875 sv3 sv4 q3 m3
theorem q5 : itr (cw wA) 3125 iv = sv5 := step 2500 sv4 sv5 q4 m4
theorem q6 : itr (cw wA) 3750 iv = sv6 := step 3125 sv5 sv6 q5 m5
theorem q7 : itr (cw wA) 4375 iv = sv7 := step 3750 sv6 sv7 q6 m6
theorem q8 : itr (cw wA) 5000 iv = sv8 := step 4375 sv7 sv8 q7 m7
theorem q9 : itr (cw wA) 5625 iv = sv9 := step 5000 sv8 sv9 q8 m8
theorem q10 : itr (cw wA) 6250 iv = sv10 := step 5625 sv9 sv10 q9 m9
theorem q11 : itr (cw wA) 6875 iv = sv11 := step 6250 sv10 sv11 q10 m10
theorem q12 : itr (cw wA) 7500 iv = sv12 := step 6875 sv11 sv12 q11 m11
theorem q13 : itr (cw wA) 8125 iv = sv13 := step 7500 sv12 sv13 q12 m12
theorem q14 : itr (cw wA) 8750 iv = sv14 := step 8125 sv13 sv14 q13 m13
theorem q15 : itr (cw wA) 9375 iv = sv15 := step 8750 sv14 sv15 q14 m14
theorem q16 : itr (cw wA) 10000 iv = sv16 := step 9375 sv15 sv16 q15 m15
theorem q17 : itr (cw wA) 10625 iv = sv17 := step 10000 sv16 sv17 q16 m16
theorem q18 : itr (cw wA) 11250 iv = sv18 := step 10625 sv17 sv18 q17 m17
theorem q19 : itr (cw wA) 11875 iv = sv19 := step 11250 sv18 sv19 q18 m18
theorem q20 : itr (cw wA) 12500 iv = sv20 := step 11875 sv19 sv20 q19 m19
theorem q21 : itr (cw wA) 13125 iv = sv21 := step 12500 sv20 sv21 q20 m20
theorem q22 : itr (cw wA) 13750 iv = sv22 := step 13125 sv21 sv22 q21 m21
theorem q23 : itr (cw wA) 14375 iv = sv23 := step 13750 sv22 sv23 q22 m22
theorem q24 : itr (cw wA) 15000 iv = sv24 := step 14375 sv23 sv24 q23 m23
theorem q25 : itr (cw wA) 15625 iv = sv25 := step 15000 sv24 sv25 q24 m24
def fP (j : Nat) : UInt8 := (pad 1000000).getD j 0
def mil : List UInt8 := List.replicate 1000000 97
theorem mil_len : mil.length = 1000000 := List.length_replicate
theorem pad_mil : (pad 1000000).length = 64 := by rw [pad_length]
theorem mil_blk (q j : Nat) (hq : q < 15625) (hj : j < 64) : blk (mil ++ pad mil.length) q j = fA j := by
  rw [blk_append _ _ _ _ (by rw [mil_len]; omega)]
  unfold blk mil fA
  rw [List.getD_eq_getElem?_getD, List.getElem?_replicate, if_pos (by omega)]
  rfl
theorem mil_last (j : Nat) (hj : j < 64) : blk (mil ++ pad mil.length) 15625 j = fP j := by
  rw [mil_len]
  unfold blk fP
  rw [List.getD_eq_getElem?_getD, List.getElem?_append_right (by rw [mil_len]; omega), mil_len, show 64 * 15625 + j - 1000000 = j by omega, ← List.getD_eq_getElem?_getD]
theorem mil_num : num (mil ++ pad mil.length) = cw (wt fP) sv25 := by
  have hl : (mil ++ pad mil.length).length / 64 = 15625 + 1 := by rw [List.length_append, mil_len, pad_mil]
  unfold num
  rw [hl, hs_succ, wt_congr mil_last, hs_itr _ fA 15625 (fun q hq j hj => mil_blk q j hq hj)]
  show cw (wt fP) (itr (cw wA) 15625 iv) = _
  rw [q25]
end Go.Proofs.YtjoaiagiankfdaaDoor.Sha
namespace Go.Proofs.YtjoaiagiankfdaaDoor
abbrev litM : ByteArray := ⟨#[99, 100, 99, 55, 54, 101, 53, 99, 57, 57, 49, 52, 102, 98, 57, 50, 56, 49, 97, 49, 99, 55, 101, 50, 56, 52, 100, 55, 51, 101, 54, 55, 102, 49, 56, 48, 57, 97, 52, 56, 97, 52, 57, 55, 50, 48, 48, 101, 48, 52, 54, 100, 51, 57, 99, 99, 99, 55, 49, 49, 50, 99, 100, 48]⟩
abbrev litL : ByteArray := ⟨#[50, 52, 56, 100, 54, 97, 54, 49, 100, 50, 48, 54, 51, 56, 98, 56, 101, 53, 99, 48, 50, 54, 57, 51, 48, 99, 51, 101, 54, 48, 51, 57, 97, 51, 51, 99, 101, 52, 53, 57, 54, 52, 102, 102, 50, 49, 54, 55, 102, 54, 101, 99, 101, 100, 100, 52, 49, 57, 100, 98, 48, 54, 99, 49]⟩
abbrev msgL : ByteArray := ⟨#[97, 98, 99, 100, 98, 99, 100, 101, 99, 100, 101, 102, 100, 101, 102, 103, 101, 102, 103, 104, 102, 103, 104, 105, 103, 104, 105, 106, 104, 105, 106, 107, 105, 106, 107, 108, 106, 107, 108, 109, 107, 108, 109, 110, 108, 109, 110, 111, 109, 110, 111, 112, 110, 111, 112, 113]⟩
theorem dg_mil : dg Sha.mil = Sha.outByte (Sha.cw (Sha.wt Sha.fP) Sha.sv25) := by unfold dg; rw [Sha.mil_num]
theorem hexM' : hexL (Sha.outByte (Sha.cw (Sha.wt Sha.fP) Sha.sv25)) = litM.data.toList := by decide +kernel
theorem hexM : hexL (dg Sha.mil) = litM.data.toList := by rw [dg_mil, hexM']
theorem hexL56 : hexL (dg msgL.data.toList) = litL.data.toList := by decide +kernel
end Go.Proofs.YtjoaiagiankfdaaDoor
