/- Small things for the walks; the order of two texts. -/
import Derived.Test.YthbdaadhcheggaaMath
import Derived.Test.YthbdaadhcheggaaProg
import Derived.WalkKit
import Derived.WalkLawsBesides
import Derived.WalkSpells
import Derived.BigQuiet
import Derived.Deep.QuietTactic
import Derived.Deep.DrawnRows
import Derived.Lib.Bytealg
namespace Go.Proofs.Ythbdaadhcheggaa
set_option linter.unusedVariables false
set_option linter.unusedSimpArgs false
open Go.RowKit
structure Hid (p : Prop) : Prop where
  out : p
abbrev str (l : List UInt8) : Value := .string ⟨l.toArray⟩
/-- an entry as a value -/
abbrev pv (p : En) : Value := .agg #[str p.key, str p.val]
theorem str_size (l : List UInt8) : (⟨l.toArray⟩ : ByteArray).size = l.length := by simp [ByteArray.size]
theorem str_toList (l : List UInt8) : (⟨l.toArray⟩ : ByteArray).toList = l := by rw [ByteArray.toList_eq]
theorem bcmp_lib : ∀ a b, Lib.compareBytes a b = bcmp a b
  | [], [] => by simp [Lib.compareBytes, bcmp]
  | [], _ :: _ => by simp [Lib.compareBytes, bcmp]
  | _ :: _, [] => by simp [Lib.compareBytes, bcmp]
  | x :: a, y :: b => by
    simp only [Lib.compareBytes, bcmp, bcmp_lib a b, UInt8.lt_iff_toNat_lt]
theorem bytesLess_eq : ∀ a b, Go.Op.bytesLess a b = decide (bcmp a b = -1)
  | [], [] => by simp [Go.Op.bytesLess, bcmp]
  | [], _ :: _ => by simp [Go.Op.bytesLess, bcmp]
  | _ :: _, [] => by simp [Go.Op.bytesLess, bcmp]
  | x :: a, y :: b => by
    have hxy : (x == y) = decide (x.toNat = y.toNat) := by
      by_cases e : x = y
      · subst e; simp
      · rw [beq_eq_false_iff_ne.2 e]; symm; rw [decide_eq_false_iff_not]; exact fun h => e (UInt8.toNat.inj h)
    simp only [Go.Op.bytesLess, bcmp, bytesLess_eq a b, UInt8.lt_iff_toNat_lt, hxy]
    repeat' split
    · next h => simp [h]
    · next h1 h2 => simp [h1]; omega
    · next h1 h2 => simp [h1]; omega
noncomputable def slS (v : Value) (a b c : Option Value) : Sem Value := Instr.slice 9 v a b c
theorem sl9 (v : Value) (a b c : Option Value) : Instr.slice 9 v a b c = slS v a b c := rfl
noncomputable def ixS (v i : Value) : Sem Value := Instr.index 9 v i
theorem ix9 (v i : Value) : Instr.index 9 v i = ixS v i := rfl
theorem mk_ext (s : ByteArray) (i j : Nat) : s.extract i j = ⟨((s.data.toList.drop i).take (j - i)).toArray⟩ := by
  apply ByteArray.ext
  apply Array.ext'
  simp [ByteArray.data_extract, List.extract_eq_take_drop]
theorem run_hi (l : List UInt8) (j : Nat) (h : j ≤ l.length) (hl : l.length ≤ 9223372036854775807) (w : World) : (slS (str l) none (some (.int .i64 (j : Int))) none).run Try.prog w = .ok (str (l.take j)) w := by
  unfold slS
  rw [run_slice_string_h (P := Try.prog) w 9 _ Try.underlying9 .i64 j (by omega) (by rw [str_size]; omega), mk_ext]
  simp
theorem run_mid (l : List UInt8) (i j : Nat) (h1 : i ≤ j) (h2 : j ≤ l.length) (hl : l.length ≤ 9223372036854775807) (w : World) : (slS (str l) (some (.int .i64 (i : Int))) (some (.int .i64 (j : Int))) none).run Try.prog w = .ok (str ((l.drop i).take (j - i))) w := by
  unfold slS
  rw [run_slice_string_if (P := Try.prog) (w := w) 9 _ .i64 .i64 i j Try.underlying9, if_pos ⟨by omega, by rw [str_size]; omega⟩, if_pos ⟨by omega, by omega⟩, mk_ext]
  simp
theorem run_lo (l : List UInt8) (i : Nat) (h : i ≤ l.length) (hl : l.length ≤ 9223372036854775807) (w : World) : (slS (str l) (some (.int .i64 (i : Int))) none none).run Try.prog w = .ok (str (l.drop i)) w := by
  unfold slS
  rw [run_slice_string_l (P := Try.prog) w 9 _ Try.underlying9 .i64 i (by omega) (by rw [str_size]; omega)]
  have e : (⟨l.toArray⟩ : ByteArray).extract ((i : Int)).toNat (⟨l.toArray⟩ : ByteArray).size = ⟨(l.drop i).toArray⟩ := by
    rw [mk_ext, str_size]
    congr 2
    simp
    rw [List.take_of_length_le (by simp)]
  exact congrArg (fun x => Result.ok (Value.string x) w) e
theorem run_ix (l : List UInt8) (p : Nat) (h : p < l.length) (w : World) : (ixS (str l) (.int .i64 (p : Int))).run Try.prog w = .ok (.int .u8 ((l.getD p 0).toNat : Int)) w := by
  unfold ixS
  rw [run_index_string _ _ _ _ _ Try.underlying9]
  have h2 : (0 : Int) ≤ (p : Int) ∧ (p : Int) < (⟨l.toArray⟩ : ByteArray).size := by rw [str_size]; omega
  rw [dif_pos h2]
  congr 4
  rw [List.getD_eq_getElem?_getD, List.getElem?_eq_getElem h]
  rfl
end Go.Proofs.Ythbdaadhcheggaa
