/- Small things for the walks; must; the loops over a text. -/
import Derived.Test.YtokkoacfmdnmaaaDoorMath
import Derived.Test.YtokkoacfmdnmaaaDoorProg
import Derived.WalkKit
import Derived.WalkLawsBesides
import Derived.WalkSpells
import Derived.BigQuiet
import Derived.Deep.QuietTactic
import Derived.Deep.DrawnRows
namespace Go.Proofs.YtokkoacfmdnmaaaDoor
set_option linter.unusedVariables false
set_option linter.unusedSimpArgs false
open Go.RowKit
structure Hid (p : Prop) : Prop where
  out : p
abbrev str (l : List UInt8) : Value := .string ⟨l.toArray⟩
theorem idxs (s : ByteArray) (l : List UInt8) (hl : l = s.data.toList) (p : Nat) (h : p < s.size) (w : World) : (Instr.index 9 (.string s) (.int .i64 (p : Int))).run Tryd.prog w = .ok (.int .u8 ((l.getD p 0).toNat : Int)) w := by
  rw [run_index_string _ _ _ _ _ Tryd.underlying9]
  have h2 : (0 : Int) ≤ (p : Int) ∧ (p : Int) < s.size := by omega
  have h3 : p < s.data.size := h
  rw [dif_pos h2]
  subst hl
  have : s.data.toList.getD p 0 = s[p] := by
    rw [List.getD_eq_getElem?_getD, List.getElem?_eq_getElem (by simpa using h3)]
    rfl
  rw [this]
  rfl
/-- What the program panics with. -/
abbrev gone : Ending := .panicked [{ v := .iface 23 (.int .i64 4), recovered := false }]
theorem must_true (w : World) : Calls Tryd.prog 28 #[.bool true] w fun e w' => e = .returned (.tuple #[]) ∧ w' = w := by
  go_enter Tryd.func28, Tryd.ntmps28
  go_wp2
  go_end0
  exact ⟨rfl, rfl⟩
theorem must_false (w : World) : Calls Tryd.prog 28 #[.bool false] w fun e w' => e = gone ∧ w' = w := by
  go_enter Tryd.func28, Tryd.ntmps28
  go_wp2
  exact ⟨rfl, rfl, rfl⟩
theorem getD_of {s : ByteArray} {l : List UInt8} (hl : l = s.data.toList) : l.length = s.size := by rw [hl, Array.length_toList]; rfl
theorem mem_getD {l : List UInt8} {c : UInt8} (h : c ∈ l) : ∃ j, j < l.length ∧ l.getD j 0 = c := by
  obtain ⟨j, hj, e⟩ := List.mem_iff_getElem.1 h
  exact ⟨j, hj, by rw [List.getD_eq_getElem?_getD, List.getElem?_eq_getElem hj, e]; rfl⟩
theorem getD_mem {l : List UInt8} {j : Nat} (hj : j < l.length) : l.getD j 0 ∈ l := by
  rw [List.getD_eq_getElem?_getD, List.getElem?_eq_getElem hj]; exact List.getElem_mem hj
def noBad (l : List UInt8) (k : Nat) : Prop := ∀ j, j < k → l.getD j 0 ≠ 61 ∧ l.getD j 0 ≠ 10
theorem key_full {l : List UInt8} (h : noBad l l.length) : key l = !l.isEmpty := by
  have a : (61 : UInt8) ∉ l := fun m => by obtain ⟨j, hj, e⟩ := mem_getD m; exact (h j hj).1 e
  have b : (10 : UInt8) ∉ l := fun m => by obtain ⟨j, hj, e⟩ := mem_getD m; exact (h j hj).2 e
  simp [key, a, b]
theorem key_bad {l : List UInt8} {j : Nat} (hj : j < l.length) (h : l.getD j 0 = 61 ∨ l.getD j 0 = 10) : key l = false := by
  have m := getD_mem hj
  rcases h with h | h <;> (rw [h] at m; simp [key, m])
theorem toList_empty (s : ByteArray) : s.toList.isEmpty = s.data.toList.isEmpty := by rw [ByteArray.toList_eq]
attribute [local go_sem ↓] Go.wp_at_zero Go.wp_at_succ
theorem refKey_any (s : ByteArray) (hs : s.size ≤ 9223372036854775807) (w : World) :
    Calls Tryd.prog 21 #[.string s] w fun e w' => e = .returned (.bool (key s.data.toList)) ∧ w' = w := by
  obtain ⟨l, hl⟩ : ∃ l, l = s.data.toList := ⟨_, rfl⟩
  have hlen := getD_of hl
  have he : s.toList.isEmpty = l.isEmpty := by rw [toList_empty, hl]
  have hix := idxs s l hl
  rw [← hl]
  have HL : Hid (l = s.data.toList) := ⟨hl⟩
  clear hl
  go_enter Tryd.func21, Tryd.ntmps21
  go_wp2_with fail
  go_loop [3] (fun i => ∃ k : Nat, i = .int .i64 k ∧ k ≤ s.size ∧ noBad l k) (fun i => s.size - (intOf i).toNat)
  case atStart => exact ⟨0, rfl, Nat.zero_le _, fun j hj => by omega⟩
  case round =>
    obtain ⟨k, rfl, hk, hb⟩ := hrel
    by_cases h1 : k < s.size
    · have d1 : decide ((k : Int) < (s.size : Int)) = true := decide_eq_true (by omega)
      have hx := hix k h1
      obtain ⟨c, hc⟩ : ∃ c, c = l.getD k 0 := ⟨_, rfl⟩
      rw [← hc] at hx
      have HC : Hid (c = l.getD k 0) := ⟨hc⟩
      clear hc hix
      by_cases h2 : c = 61
      · have hK : key l = false := key_bad (by omega) (Or.inl (HC.out ▸ h2))
        subst h2
        go_wp2_with fail
        go_ret
        exact ⟨rfl, rfl⟩
      · have d2 : ((c.toNat : Int) == 61) = false := by simpa using fun e => h2 (UInt8.toNat_inj.1 (Int.ofNat.inj e))
        by_cases h3 : c = 10
        · have hK : key l = false := key_bad (by omega) (Or.inr (HC.out ▸ h3))
          subst h3
          go_wp2_with fail
          go_ret
          exact ⟨rfl, rfl⟩
        · have d3 : ((c.toNat : Int) == 10) = false := by simpa using fun e => h3 (UInt8.toNat_inj.1 (Int.ofNat.inj e))
          have hB : Hid (noBad l (k + 1)) := ⟨fun j hj => by
            by_cases e : j = k
            · subst e; rw [← HC.out]; exact ⟨h2, h3⟩
            · exact hb j (by omega)⟩
          go_wp2_with fail
          go_round
          case rel => exact ⟨k + 1, by go_num, h1, hB.out⟩
          case measure => simp [intOf]; omega
    · have d1 : decide ((k : Int) < (s.size : Int)) = false := decide_eq_false (by omega)
      have hK := key_full (l := l) (by rw [hlen, show s.size = k by omega]; exact hb)
      go_wp2_with fail
      go_ret
      exact ⟨rfl, rfl⟩
theorem right_any (s : ByteArray) (hs : s.size ≤ 9223372036854775807) (w : World) :
    Calls Tryd.prog 11 #[.string s] w fun e w' => e = .returned (.bool (key s.data.toList)) ∧ w' = w := by
  obtain ⟨l, hl⟩ : ∃ l, l = s.data.toList := ⟨_, rfl⟩
  have hlen := getD_of hl
  have he : s.toList.isEmpty = l.isEmpty := by rw [toList_empty, hl]
  have hix := idxs s l hl
  rw [← hl]
  have HL : Hid (l = s.data.toList) := ⟨hl⟩
  clear hl
  go_enter Tryd.func11, Tryd.ntmps11
  go_wp2_with fail
  go_loop [3] (fun i => ∃ k : Nat, i = .int .i64 k ∧ k ≤ s.size ∧ noBad l k) (fun i => s.size - (intOf i).toNat)
  case atStart => exact ⟨0, rfl, Nat.zero_le _, fun j hj => by omega⟩
  case round =>
    obtain ⟨k, rfl, hk, hb⟩ := hrel
    by_cases h1 : k < s.size
    · have d1 : decide ((k : Int) < (s.size : Int)) = true := decide_eq_true (by omega)
      have hx := hix k h1
      obtain ⟨c, hc⟩ : ∃ c, c = l.getD k 0 := ⟨_, rfl⟩
      rw [← hc] at hx
      have HC : Hid (c = l.getD k 0) := ⟨hc⟩
      clear hc hix
      by_cases h2 : c = 61
      · have hK : key l = false := key_bad (by omega) (Or.inl (HC.out ▸ h2))
        subst h2
        go_wp2_with fail
        go_ret
        exact ⟨rfl, rfl⟩
      · have d2 : ((c.toNat : Int) == 61) = false := by simpa using fun e => h2 (UInt8.toNat_inj.1 (Int.ofNat.inj e))
        by_cases h3 : c = 10
        · have hK : key l = false := key_bad (by omega) (Or.inr (HC.out ▸ h3))
          subst h3
          go_wp2_with fail
          go_ret
          exact ⟨rfl, rfl⟩
        · have d3 : ((c.toNat : Int) == 10) = false := by simpa using fun e => h3 (UInt8.toNat_inj.1 (Int.ofNat.inj e))
          have hB : Hid (noBad l (k + 1)) := ⟨fun j hj => by
            by_cases e : j = k
            · subst e; rw [← HC.out]; exact ⟨h2, h3⟩
            · exact hb j (by omega)⟩
          go_wp2_with fail
          go_round
          case rel => exact ⟨k + 1, by go_num, h1, hB.out⟩
          case measure => simp [intOf]; omega
    · have d1 : decide ((k : Int) < (s.size : Int)) = false := decide_eq_false (by omega)
      have hK := key_full (l := l) (by rw [hlen, show s.size = k by omega]; exact hb)
      go_wp2_with fail
      go_ret
      exact ⟨rfl, rfl⟩
end Go.Proofs.YtokkoacfmdnmaaaDoor
