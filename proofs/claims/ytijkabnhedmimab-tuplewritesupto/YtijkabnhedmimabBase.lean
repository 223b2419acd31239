/- Small things for the walks; is it a part; the numbers turned; the order of two texts. -/
import Derived.Test.YtijkabnhedmimabMath
import Derived.Test.YtijkabnhedmimabProg
import Derived.WalkKit
import Derived.WalkLawsBesides
import Derived.WalkSpells
import Derived.BigQuiet
import Derived.Deep.QuietTactic
import Derived.Deep.DrawnRows
import Derived.Lib.Bytealg
namespace Go.Proofs.Ytijkabnhedmimab
set_option linter.unusedVariables false
set_option linter.unusedSimpArgs false
open Go.RowKit
structure Hid (p : Prop) : Prop where
  out : p
abbrev str (l : List UInt8) : Value := .string ⟨l.toArray⟩
/-- a part as a value -/
abbrev pv (p : Pt) : Value := .agg #[.int .i64 p.kind, str p.text, .int .i64 p.n]
theorem str_size (l : List UInt8) : (⟨l.toArray⟩ : ByteArray).size = l.length := by simp [ByteArray.size]
theorem str_toList (l : List UInt8) : (⟨l.toArray⟩ : ByteArray).toList = l := by rw [ByteArray.toList_eq]
theorem bcmp_lib : ∀ a b, Lib.compareBytes a b = bcmp a b
  | [], [] => by simp [Lib.compareBytes, bcmp]
  | [], _ :: _ => by simp [Lib.compareBytes, bcmp]
  | _ :: _, [] => by simp [Lib.compareBytes, bcmp]
  | x :: a, y :: b => by
    simp only [Lib.compareBytes, bcmp, bcmp_lib a b, UInt8.lt_iff_toNat_lt]
theorem bytesLess_eq : ∀ a b, Go.Op.bytesLess a b = decide (bcmp a b = -1)
  | [], [] => by simp [Go.Op.bytesLess, bcmp]
  | [], _ :: _ => by simp [Go.Op.bytesLess, bcmp]
  | _ :: _, [] => by simp [Go.Op.bytesLess, bcmp]
  | x :: a, y :: b => by
    have hxy : (x == y) = decide (x.toNat = y.toNat) := by
      by_cases e : x = y
      · subst e; simp
      · rw [beq_eq_false_iff_ne.2 e]; symm; rw [decide_eq_false_iff_not]; exact fun h => e (UInt8.toNat.inj h)
    simp only [Go.Op.bytesLess, bcmp, bytesLess_eq a b, UInt8.lt_iff_toNat_lt, hxy]
    repeat' split
    · next h => simp [h]
    · next h1 h2 => simp [h1]; omega
    · next h1 h2 => simp [h1]; omega
noncomputable def slS (v : Value) (a b c : Option Value) : Sem Value := Instr.slice 9 v a b c
theorem sl9 (v : Value) (a b c : Option Value) : Instr.slice 9 v a b c = slS v a b c := rfl
noncomputable def ixS (v i : Value) : Sem Value := Instr.index 9 v i
theorem ix9 (v i : Value) : Instr.index 9 v i = ixS v i := rfl
theorem mk_ext (s : ByteArray) (i j : Nat) : s.extract i j = ⟨((s.data.toList.drop i).take (j - i)).toArray⟩ := by
  apply ByteArray.ext
  apply Array.ext'
  simp [ByteArray.data_extract, List.extract_eq_take_drop]
theorem run_hi (l : List UInt8) (j : Nat) (h : j ≤ l.length) (hl : l.length ≤ 9223372036854775807) (w : World) : (slS (str l) none (some (.int .i64 (j : Int))) none).run Try.prog w = .ok (str (l.take j)) w := by
  unfold slS
  rw [run_slice_string_h (P := Try.prog) w 9 _ Try.underlying9 .i64 j (by omega) (by rw [str_size]; omega), mk_ext]
  simp
theorem run_mid (l : List UInt8) (i j : Nat) (h1 : i ≤ j) (h2 : j ≤ l.length) (hl : l.length ≤ 9223372036854775807) (w : World) : (slS (str l) (some (.int .i64 (i : Int))) (some (.int .i64 (j : Int))) none).run Try.prog w = .ok (str ((l.drop i).take (j - i))) w := by
  unfold slS
  rw [run_slice_string_if (P := Try.prog) (w := w) 9 _ .i64 .i64 i j Try.underlying9, if_pos ⟨by omega, by rw [str_size]; omega⟩, if_pos ⟨by omega, by omega⟩, mk_ext]
  simp
theorem run_lo (l : List UInt8) (i : Nat) (h : i ≤ l.length) (hl : l.length ≤ 9223372036854775807) (w : World) : (slS (str l) (some (.int .i64 (i : Int))) none none).run Try.prog w = .ok (str (l.drop i)) w := by
  unfold slS
  rw [run_slice_string_l (P := Try.prog) w 9 _ Try.underlying9 .i64 i (by omega) (by rw [str_size]; omega)]
  have e : (⟨l.toArray⟩ : ByteArray).extract ((i : Int)).toNat (⟨l.toArray⟩ : ByteArray).size = ⟨(l.drop i).toArray⟩ := by
    rw [mk_ext, str_size]
    congr 2
    simp
    rw [List.take_of_length_le (by simp)]
  exact congrArg (fun x => Result.ok (Value.string x) w) e
theorem run_ix (l : List UInt8) (p : Nat) (h : p < l.length) (w : World) : (ixS (str l) (.int .i64 (p : Int))).run Try.prog w = .ok (.int .u8 ((l.getD p 0).toNat : Int)) w := by
  unfold ixS
  rw [run_index_string _ _ _ _ _ Try.underlying9]
  have h2 : (0 : Int) ≤ (p : Int) ∧ (p : Int) < (⟨l.toArray⟩ : ByteArray).size := by rw [str_size]; omega
  rw [dif_pos h2]
  congr 4
  rw [List.getD_eq_getElem?_getD, List.getElem?_eq_getElem h]
  rfl
/-- is it a part, as the program asks -/
def isP (p : Pt) : Bool := (p.kind == 1 && p.n == 0) || ((p.kind == 2 || p.kind == 3) && p.text.isEmpty)
theorem bytesCompare_any (a b : ByteArray) (w : World) : Calls Try.prog 38 #[.string a, .string b] w fun e w' => e = .returned (.int .i64 (bcmp a.data.toList b.data.toList)) ∧ w' = w := by
  go_enter Try.func38, Try.ntmps38
  go_wp2
  rw [run_callFunc_extern Try.func39 (by kernel_rfl) (by kernel_rfl) (by kernel_rfl) (e := Extern.BytealgCompare.compare) (by kernel_rfl), Lib.run_compareString]
  simp only [Result.andThen]
  rw [Oper.upon_value]
  go_wp2
  go_ret
  exact ⟨by rw [bcmp_lib]; rfl, rfl⟩
theorem strCompare_any (a b : ByteArray) (w : World) : Calls Try.prog 33 #[.string a, .string b] w fun e w' => e = .returned (.int .i64 (bcmp a.data.toList b.data.toList)) ∧ w' = w := by
  go_enter Try.func33, Try.ntmps33
  go_wp2_with (go_at_call 38; refine (bytesCompare_any _ _ _).mono ?_; rintro e w' ⟨rfl, rfl⟩)
  go_ret
  exact ⟨rfl, rfl⟩
theorem isPart_any (p : Pt) (w : World) : Calls Try.prog 18 #[pv p] w fun e w' => e = .returned (.bool (isP p)) ∧ Below w.heap.size w w' := by
  obtain ⟨k, t, n⟩ := p
  go_enter Try.func18, Try.ntmps18
  go_wp2
  all_goals go_ret
  all_goals refine ⟨?_, (Below.refl _ _).alloc (Nat.le_refl _) _⟩
  all_goals simp_all [isP]
theorem xor63 (a : Nat) (h : a < 18446744073709551616) : a ^^^ 9223372036854775808 = (a + 9223372036854775808) % 18446744073709551616 := by
  have key : ∀ b, b < 9223372036854775808 → b ^^^ 9223372036854775808 = 9223372036854775808 + b := by
    intro b hb
    apply Nat.eq_of_testBit_eq
    intro j
    have e : (9223372036854775808 : Nat) = 2 ^ 63 := by decide
    rw [e, Nat.testBit_xor, Nat.testBit_two_pow]
    rcases Nat.lt_trichotomy j 63 with hj | hj | hj
    · rw [Nat.testBit_two_pow_add_gt hj, decide_eq_false (by omega), Bool.xor_false]
    · subst hj
      rw [Nat.testBit_two_pow_add_eq]
      simp
    · have h1 : b.testBit j = false := Nat.testBit_lt_two_pow (Nat.lt_of_lt_of_le hb (by rw [e]; exact Nat.pow_le_pow_right (by decide) (by omega)))
      have h2 : (2 ^ 63 + b).testBit j = false := Nat.testBit_lt_two_pow (Nat.lt_of_lt_of_le (show 2 ^ 63 + b < 2 ^ 64 by omega) (Nat.pow_le_pow_right (by decide) (by omega)))
      rw [h1, h2, decide_eq_false (by omega)]; rfl
  by_cases hb : a < 9223372036854775808
  · rw [key a hb]; omega
  · obtain ⟨c, rfl⟩ : ∃ c, a = 9223372036854775808 + c := ⟨a - 9223372036854775808, by omega⟩
    rw [← key c (by omega), Nat.xor_assoc, Nat.xor_self, Nat.xor_zero]
    rw [key c (by omega)]
    omega
theorem xor_all (a : Nat) (h : a < 18446744073709551616) : 18446744073709551615 ^^^ a = 18446744073709551615 - a := by
  have e := congrArg BitVec.toNat (BitVec.allOnes_xor (x := BitVec.ofNat 64 a))
  rw [BitVec.toNat_xor, BitVec.toNat_not, BitVec.toNat_ofNat, Nat.mod_eq_of_lt h] at e
  exact e
/-- a number turned -/
def trn (k : Int) (n : Nat) : Nat := if k = 3 then 18446744073709551615 - (n + 9223372036854775808) % 18446744073709551616 else (n + 9223372036854775808) % 18446744073709551616
theorem turned_any (k : Int) (n : Nat) (hn : n < 18446744073709551616) (w : World) : Calls Try.prog 29 #[.int .i64 k, .int .u64 (n : Int)] w fun e w' => e = .returned (.int .u64 (trn k n : Int)) ∧ w' = w := by
  have e1 : bits BinOp.xor IntKind.u64 (n : Int) 9223372036854775808 = (((n + 9223372036854775808) % 18446744073709551616 : Nat) : Int) := by
    rw [← xor63 n hn]; exact u64_xor_nat n 9223372036854775808 hn (by decide)
  have e2 : bits BinOp.xor IntKind.u64 IntKind.u64.max (((n + 9223372036854775808) % 18446744073709551616 : Nat) : Int) = ((18446744073709551615 - (n + 9223372036854775808) % 18446744073709551616 : Nat) : Int) := by
    rw [← xor_all _ (by omega)]; exact u64_xor_nat 18446744073709551615 _ (by decide) (by omega)
  have e3 : trn k n = if k = 3 then 18446744073709551615 - (n + 9223372036854775808) % 18446744073709551616 else (n + 9223372036854775808) % 18446744073709551616 := rfl
  generalize trn k n = T at *
  generalize 18446744073709551615 - (n + 9223372036854775808) % 18446744073709551616 = y at *
  generalize (n + 9223372036854775808) % 18446744073709551616 = x at *
  by_cases hk : k = 3
  · subst hk
    rw [if_pos rfl] at e3
    subst e3
    go_enter Try.func29, Try.ntmps29
    go_wp2
    all_goals go_ret
    all_goals exact ⟨rfl, rfl⟩
  · have d : (k == 3) = false := beq_eq_false_iff_ne.2 hk
    rw [if_neg hk] at e3
    subst e3
    clear e2
    go_enter Try.func29, Try.ntmps29
    go_wp2
    all_goals go_ret
    all_goals exact ⟨rfl, rfl⟩
end Go.Proofs.Ytijkabnhedmimab
