/- A text cut at its first byte of a kind. -/
import Derived.Test.YtokkoacfmdnmaaaDoorWrite
import Derived.OwnWalk
namespace Go.Proofs.YtokkoacfmdnmaaaDoor
set_option linter.unusedVariables false
set_option linter.unusedSimpArgs false
open Go.RowKit
/-- What a cut tells. -/
def CutAt (l : List UInt8) (c : UInt8) (a b : List UInt8) (f : Bool) : Prop := (f = true ∧ l = a ++ c :: b ∧ c ∉ a) ∨ (f = false ∧ c ∉ l)
theorem ext_take (s : ByteArray) (o : Nat) : (s.extract 0 o).data.toList = s.data.toList.take o := by
  simp [ByteArray.data_extract, List.extract_eq_take_drop]
theorem ext_drop (s : ByteArray) (o : Nat) : (s.extract o s.size).data.toList = s.data.toList.drop o := by
  simp [ByteArray.data_extract, List.extract_eq_take_drop]
  exact List.take_of_length_le (by rw [List.length_drop, Array.length_toList]; exact Nat.le_refl _)
attribute [local go_sem ↓] Go.wp_at_zero Go.wp_at_succ
theorem cutIn_any (s : ByteArray) (c : UInt8) (hs : s.size ≤ 4611686018427387904) (w : World) :
    Calls Tryd.prog 33 #[.string s, .string ⟨#[c]⟩] w fun e w' => ∃ (a b : ByteArray) (f : Bool), e = .returned (.tuple #[.string a, .string b, .bool f]) ∧ CutAt s.data.toList c a.data.toList b.data.toList f ∧ Below w.heap.size w w' := by
  have hi := Tryd.stringslite_Index_one s c
  go_enter Tryd.func33, Tryd.ntmps33
  rcases (show Lib.indexByte s.data.toList c = -1 ∨ 0 ≤ Lib.indexByte s.data.toList c by have := Go.Lib.indexByte_ge s.data.toList c; omega) with h | h
  · rw [h] at hi
    have hN : Hid (c ∉ s.data.toList) := ⟨fun m => by
      obtain ⟨j, hj, e⟩ := List.mem_iff_getElem.1 m
      exact Go.Lib.indexByte_none h j (by rw [List.getElem?_eq_getElem hj, e])⟩
    clear h
    go_wp2_with (go_at_call 36; refine (hi _).mono ?_; rintro e w' ⟨rfl, rfl⟩)
    go_ret3
    exact ⟨_, _, _, rfl, Or.inr ⟨rfl, hN.out⟩, Below.refl _ _⟩
  · obtain ⟨o, ho⟩ := Int.eq_ofNat_of_zero_le h
    rw [ho] at hi
    obtain ⟨h1, h2, h3⟩ := index_split ho
    have hl : s.data.toList.length = s.size := by rw [Array.length_toList]; rfl
    have h4 : o < s.size := by omega
    have hC : Hid (CutAt s.data.toList c (s.extract 0 o).data.toList (s.extract (o + 1) s.size).data.toList true) := ⟨Or.inl ⟨rfl, by rw [ext_take, ext_drop]; exact h2, by rw [ext_take]; exact h3⟩⟩
    clear h ho h1 h2 h3 hl
    have d1 : decide ((0 : Int) ≤ (o : Int)) = true := decide_eq_true (by omega)
    go_wp2_with (go_at_call 36; refine (hi _).mono ?_; rintro e w' ⟨rfl, rfl⟩)
    go_quiet (fail)
    go_wp2_with fail
    go_ret3
    exact ⟨_, _, _, rfl, hC.out, ⟨rfl, rfl, rfl, Nat.le_refl _, fun _ _ => rfl⟩⟩
theorem cut_any (s : ByteArray) (c : UInt8) (hs : s.size ≤ 4611686018427387904) (w : World) :
    Calls Tryd.prog 29 #[.string s, .string ⟨#[c]⟩] w fun e w' => ∃ (a b : ByteArray) (f : Bool), e = .returned (.tuple #[.string a, .string b, .bool f]) ∧ CutAt s.data.toList c a.data.toList b.data.toList f ∧ Below w.heap.size w w' := by
  have hi := cutIn_any s c hs
  go_enter Tryd.func29, Tryd.ntmps29
  go_wp2_with (go_at_call 33; refine (hi _).mono ?_; rintro e w' ⟨a, b, f, rfl, hC, hb⟩)
  go_ret3
  exact ⟨_, _, _, rfl, hC, hb⟩
theorem refCut_any (s : ByteArray) (c : UInt8) (hs : s.size ≤ 4611686018427387904) (w : World) :
    Calls Tryd.prog 25 #[.string s, .int .u8 (c.toNat : Int)] w fun e w' => ∃ (a b : ByteArray) (f : Bool), e = .returned (.tuple #[.string a, .string b, .bool f]) ∧ CutAt s.data.toList c a.data.toList b.data.toList f ∧ Below w.heap.size w w' := by
  obtain ⟨l, hl⟩ : ∃ l, l = s.data.toList := ⟨_, rfl⟩
  have hlen := getD_of hl
  have hix := idxs s l hl
  have hC : ∀ k, k < s.size → l.getD k 0 = c → (∀ j, j < k → l.getD j 0 ≠ c) → CutAt l c (s.extract 0 k).data.toList (s.extract (k + 1) s.size).data.toList true := fun k h1 h2 h3 => by
    refine Or.inl ⟨rfl, ?_, ?_⟩
    · have e1 : l[k]'(by omega) = c := by
        rw [List.getD_eq_getElem?_getD, List.getElem?_eq_getElem (by omega)] at h2; exact h2
      rw [ext_take, ext_drop, ← hl, ← e1, List.getElem_cons_drop, List.take_append_drop]
    · rw [ext_take, ← hl]
      intro m
      obtain ⟨j, hj, e⟩ := mem_getD m
      rw [List.length_take] at hj
      rw [List.getD_eq_getElem?_getD, List.getElem?_take_of_lt (by omega), ← List.getD_eq_getElem?_getD] at e
      exact h3 j (by omega) e
  rw [← hl]
  clear hl
  go_enter Tryd.func25, Tryd.ntmps25
  go_wp2_with fail
  go_loop [7] (fun i => ∃ k : Nat, i = .int .i64 k ∧ k ≤ s.size ∧ ∀ j, j < k → l.getD j 0 ≠ c) (fun i => s.size - (intOf i).toNat)
  case atStart => exact ⟨0, rfl, Nat.zero_le _, fun j hj => by omega⟩
  case round =>
    obtain ⟨k, rfl, hk, hb⟩ := hrel
    by_cases h1 : k < s.size
    · have d1 : decide ((k : Int) < (s.size : Int)) = true := decide_eq_true (by omega)
      have hx := hix k h1
      by_cases h2 : l.getD k 0 = c
      · have hCC : Hid _ := ⟨hC k h1 h2 hb⟩
        rw [h2] at hx
        clear hix hC hb h2
        have d2 : ((c.toNat : Int) == (c.toNat : Int)) = true := beq_self_eq_true _
        go_wp2_with fail
        go_quiet (fail)
        go_wp2_with fail
        go_ret3
        exact ⟨_, _, _, rfl, hCC.out, ⟨rfl, rfl, rfl, Nat.le_refl _, fun _ _ => rfl⟩⟩
      · have hB : Hid (∀ j, j < k + 1 → l.getD j 0 ≠ c) := ⟨fun j hj => by
          by_cases e : j = k
          · subst e; exact h2
          · exact hb j (by omega)⟩
        generalize l.getD k 0 = x at hx h2
        have d2 : ((x.toNat : Int) == (c.toNat : Int)) = false := by simpa using fun e => h2 (UInt8.toNat_inj.1 (Int.ofNat.inj e))
        clear hix hC hb h2
        go_wp2_with fail
        go_round
        case rel => exact ⟨k + 1, by go_num, h1, hB.out⟩
        case measure => simp [intOf]; omega
    · have d1 : decide ((k : Int) < (s.size : Int)) = false := decide_eq_false (by omega)
      have hN : Hid (c ∉ l) := ⟨fun m => by
        obtain ⟨j, hj, e⟩ := mem_getD m
        exact hb j (by omega) e⟩
      clear hix hC hb
      go_wp2_with fail
      go_ret3
      exact ⟨_, _, Or.inl ⟨rfl, Or.inr ⟨rfl, hN.out⟩, Below.refl _ _⟩⟩
end Go.Proofs.YtokkoacfmdnmaaaDoor
