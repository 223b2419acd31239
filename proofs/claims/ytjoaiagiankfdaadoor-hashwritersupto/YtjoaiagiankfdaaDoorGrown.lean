/- A text, so often behind itself. -/
import Derived.Test.YtjoaiagiankfdaaDoorEq
namespace Go.Proofs.YtjoaiagiankfdaaDoor
set_option linter.unusedVariables false
set_option linter.unusedSimpArgs false
open Go.RowKit
theorem toList_empty (s : ByteArray) : s.toList.isEmpty = decide (s.size = 0) := by
  rw [ByteArray.toList_eq]
  have : s.size = s.data.toList.length := by simp
  rw [this]
  cases s.data.toList <;> simp
set_option maxHeartbeats 400000 in
set_option maxRecDepth 8000 in
theorem grown_any (s : ByteArray) (n : Int) (hs : s.size ≤ 140737488351232) (hn : n ≤ 9223372036854775807) (w : World) :
    Calls Tryd.prog 16 #[.string s, .int .i64 n] w fun e w' => ∃ t : ByteArray, e = .returned (.string t) ∧ t.size ≤ 140737488356232 ∧ w' = w := by
  go_enter Tryd.func16, Tryd.ntmps16
  go_wp2_with fail
  go_loop [5, 6] (fun v i => ∃ (t : ByteArray) (k : Nat), v = .string t ∧ i = .int .i64 k ∧ (k = 1 ∨ (k : Int) ≤ n) ∧ t.size ≤ 140737488356232) (fun _ i => n.toNat - (intOf i).toNat)
  case atStart => exact ⟨s, 1, rfl, rfl, Or.inl rfl, by omega⟩
  case round =>
    obtain ⟨t, k, rfl, rfl, hk, ht⟩ := hrel
    have hk2 : (k : Int) ≤ 9223372036854775807 := by omega
    by_cases h1 : (k : Int) < n
    · have d1 : decide ((k : Int) < n) = true := decide_eq_true h1
      by_cases h2 : t.size < 5000
      · have d2 : decide ((t.size : Int) < 5000) = true := decide_eq_true (by omega)
        have s1 : ¬ 9223372036854775807 < t.size + s.size := by omega
        have HS : Hid ((t ++ s).size ≤ 140737488356232) := by show _ ≤ _; rw [ByteArray.size_append]; omega
        have he := toList_empty s
        by_cases h3 : s.size = 0
        · have d3 : s.toList.isEmpty = true := by rw [he, decide_eq_true h3]
          clear he
          go_wp2_with fail
          go_ret
          exact ⟨t, rfl, ht, rfl⟩
        · have d3 : s.toList.isEmpty = false := by rw [he, decide_eq_false h3]
          clear he
          go_wp2_with fail
          go_round
          case rel => exact ⟨_, k + 1, rfl, by go_num, Or.inr (by omega), HS.out⟩
          case measure => simp [intOf]; omega
      · have d2 : decide ((t.size : Int) < 5000) = false := decide_eq_false (by omega)
        go_wp2_with fail
        go_ret
        exact ⟨t, rfl, ht, rfl⟩
    · have d1 : decide ((k : Int) < n) = false := decide_eq_false h1
      go_wp2_with fail
      go_ret
      exact ⟨t, rfl, ht, rfl⟩
end Go.Proofs.YtjoaiagiankfdaaDoor
