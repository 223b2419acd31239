/- Write, the program's and the reference's. -/
import Derived.Test.YtokkoacfmdnmaaaDoorDec
namespace Go.Proofs.YtokkoacfmdnmaaaDoor
set_option linter.unusedVariables false
set_option linter.unusedSimpArgs false
open Go.RowKit
/-- What Write answers. -/
def wrote (k v : List UInt8) : List UInt8 := if key k = false then [] else if 1048576 < LEN (nn k v) then [] else recd k v
def werr (k v : List UInt8) : Int := if key k = false then 1 else if 1048576 < LEN (nn k v) then 3 else 0
theorem cat_any (s t : ByteArray) : s ++ t = ⟨(s.data.toList ++ t.data.toList).toArray⟩ := by
  apply ByteArray.ext
  rw [ByteArray.data_append]
  simp
theorem nn_size {s t : ByteArray} : nn s.data.toList t.data.toList = s.size + t.size + 3 := by
  unfold nn; rw [Array.length_toList, Array.length_toList]; rfl
attribute [local go_sem ↓] Go.wp_at_zero Go.wp_at_succ
theorem write_any (s t : ByteArray) (hs : s.size ≤ 281474976710656) (ht : t.size ≤ 281474976710656) (w : World) (hT : TB w) :
    Calls Tryd.prog 10 #[.string s, .string t] w fun e w' => e = .returned (.tuple #[str (wrote s.data.toList t.data.toList), .int .i64 (werr s.data.toList t.data.toList)]) ∧ Below w.heap.size w w' := by
  have hk := isKey_any s
  have hl := length_any s t (by omega) w hT
  rw [← nn_size] at hl
  have hB : LEN (nn s.data.toList t.data.toList) ≤ 1125899906842624 := by
    have := dig_bound (n := nn s.data.toList t.data.toList) (by rw [nn_size]; omega)
    unfold LEN; rw [nn_size] at *; omega
  unfold wrote werr
  go_enter Tryd.func10, Tryd.ntmps10
  by_cases h1 : key s.data.toList = false
  · rw [h1] at hk
    rw [if_pos h1, if_pos h1]
    go_wp2_with (go_at_call 18; refine (hk _).mono ?_; rintro e w' ⟨rfl, rfl⟩)
    go_ret2
    exact ⟨rfl, Below.refl _ _⟩
  · rw [if_neg h1, if_neg h1]
    rw [Bool.not_eq_false] at h1
    rw [h1] at hk
    generalize hL : LEN (nn s.data.toList t.data.toList) = L at *
    by_cases h2 : 1048576 < L
    · rw [if_pos h2, if_pos h2]
      have d2 : decide ((1048576 : Int) < (L : Int)) = true := decide_eq_true (by omega)
      go_wp2_with (first | (go_at_call 18; refine (hk _).mono ?_; rintro e w' ⟨rfl, rfl⟩) | (go_at_call 19; refine hl.mono ?_; rintro e w' ⟨rfl, hb⟩))
      go_ret2
      exact ⟨rfl, hb⟩
    · rw [if_neg h2, if_neg h2]
      have d2 : decide ((1048576 : Int) < (L : Int)) = false := decide_eq_false (by omega)
      have hR : Hid ((⟨(Lib.decDigits L).toArray⟩ : ByteArray) ++ ⟨#[32]⟩ ++ s ++ ⟨#[61]⟩ ++ t ++ ⟨#[10]⟩ = ⟨(recd s.data.toList t.data.toList).toArray⟩) := ⟨by
        unfold recd tail; rw [hL]; simp only [cat_any]; simp⟩
      have hI := fun w ht => itoa_any L (by omega) w ht
      unfold str at hI
      have hq : (⟨(Lib.decDigits L).toArray⟩ : ByteArray).size ≤ 19 := by
        have := nDigits_int (n := L) (by omega)
        rw [← Lib.decDigits_length] at this; exact this
      generalize (⟨(Lib.decDigits L).toArray⟩ : ByteArray) = q at *
      have n1 : ¬ 9223372036854775807 < q.size + 1 := by omega
      have n2 : ¬ 9223372036854775807 < q.size + 1 + s.size := by omega
      have n3 : ¬ 9223372036854775807 < q.size + 1 + s.size + 1 := by omega
      have n4 : ¬ 9223372036854775807 < q.size + 1 + s.size + 1 + t.size := by omega
      have n5 : ¬ 9223372036854775807 < q.size + 1 + s.size + 1 + t.size + 1 := by omega
      go_wp2_with (first | (go_at_call 18; refine (hk _).mono ?_; rintro e w' ⟨rfl, rfl⟩) | (go_at_call 19; refine hl.mono ?_; rintro e w' ⟨rfl, hb⟩) | (go_at_call 20; refine (hI _ (hT.below hb)).mono ?_; rintro e w2 ⟨rfl, hb2⟩))
      go_ret2
      refine ⟨?_, below_seq hb hb2⟩
      show Ending.returned (.tuple #[.string (_ ++ _ ++ _ ++ _ ++ _ ++ _), .int .i64 0]) = _
      rw [hR.out]
theorem refWrite_any (s t : ByteArray) (hs : s.size ≤ 281474976710656) (ht : t.size ≤ 281474976710656) (w : World) :
    Calls Tryd.prog 14 #[.string s, .string t] w fun e w' => e = .returned (.tuple #[str (wrote s.data.toList t.data.toList), .int .i64 (werr s.data.toList t.data.toList)]) ∧ Below w.heap.size w w' := by
  have hk := refKey_any s (by omega)
  have hl : Calls Tryd.prog 22 #[.int .i64 ((s.size : Int) + (t.size : Int) + 3)] w fun e w' => e = .returned (.int .i64 (LEN (nn s.data.toList t.data.toList))) ∧ Below w.heap.size w w' := by
    have := refLen_any (s.size + t.size + 3) (by omega) w
    rw [nn_size]
    rwa [show ((s.size + t.size + 3 : Nat) : Int) = (s.size : Int) + (t.size : Int) + 3 by omega] at this
  have hB : LEN (nn s.data.toList t.data.toList) ≤ 1125899906842624 := by
    have := dig_bound (n := nn s.data.toList t.data.toList) (by rw [nn_size]; omega)
    unfold LEN; rw [nn_size] at *; omega
  unfold wrote werr
  go_enter Tryd.func14, Tryd.ntmps14
  by_cases h1 : key s.data.toList = false
  · rw [h1] at hk
    rw [if_pos h1, if_pos h1]
    go_wp2_with (go_at_call 21; refine (hk _).mono ?_; rintro e w' ⟨rfl, rfl⟩)
    go_ret2
    exact ⟨rfl, Below.refl _ _⟩
  · rw [if_neg h1, if_neg h1]
    rw [Bool.not_eq_false] at h1
    rw [h1] at hk
    generalize hL : LEN (nn s.data.toList t.data.toList) = L at *
    by_cases h2 : 1048576 < L
    · rw [if_pos h2, if_pos h2]
      have d2 : decide ((1048576 : Int) < (L : Int)) = true := decide_eq_true (by omega)
      go_wp2_with (first | (go_at_call 21; refine (hk _).mono ?_; rintro e w' ⟨rfl, rfl⟩) | (go_at_call 22; refine hl.mono ?_; rintro e w' ⟨rfl, hb⟩))
      go_ret2
      exact ⟨rfl, hb⟩
    · rw [if_neg h2, if_neg h2]
      have d2 : decide ((1048576 : Int) < (L : Int)) = false := decide_eq_false (by omega)
      have hR : Hid ((⟨(Lib.decDigits L).toArray⟩ : ByteArray) ++ ⟨#[32]⟩ ++ s ++ ⟨#[61]⟩ ++ t ++ ⟨#[10]⟩ = ⟨(recd s.data.toList t.data.toList).toArray⟩) := ⟨by
        unfold recd tail; rw [hL]; simp only [cat_any]; simp⟩
      have hI := fun w => refDec_any L (by omega) w
      unfold str at hI
      have hq : (⟨(Lib.decDigits L).toArray⟩ : ByteArray).size ≤ 19 := by
        have := nDigits_int (n := L) (by omega)
        rw [← Lib.decDigits_length] at this; exact this
      generalize (⟨(Lib.decDigits L).toArray⟩ : ByteArray) = q at *
      have n1 : ¬ 9223372036854775807 < q.size + 1 := by omega
      have n2 : ¬ 9223372036854775807 < q.size + 1 + s.size := by omega
      have n3 : ¬ 9223372036854775807 < q.size + 1 + s.size + 1 := by omega
      have n4 : ¬ 9223372036854775807 < q.size + 1 + s.size + 1 + t.size := by omega
      have n5 : ¬ 9223372036854775807 < q.size + 1 + s.size + 1 + t.size + 1 := by omega
      go_wp2_with (first | (go_at_call 21; refine (hk _).mono ?_; rintro e w' ⟨rfl, rfl⟩) | (go_at_call 22; refine hl.mono ?_; rintro e w' ⟨rfl, hb⟩) | (go_at_call 23; refine (hI _).mono ?_; rintro e w2 ⟨rfl, hb2⟩))
      go_ret2
      refine ⟨?_, below_seq hb hb2⟩
      show Ending.returned (.tuple #[.string (_ ++ _ ++ _ ++ _ ++ _ ++ _), .int .i64 0]) = _
      rw [hR.out]
end Go.Proofs.YtokkoacfmdnmaaaDoor
