/- How many digits; a text of zeros; the other length. -/
import Derived.Test.YtokkoacfmdnmaaaDoorDecl
import Derived.Test.YtokkoacfmdnmaaaDoorReadsW
import Derived.Laws.MakeOwn
namespace Go.Proofs.YtokkoacfmdnmaaaDoor
set_option linter.unusedVariables false
set_option linter.unusedSimpArgs false
open Go.RowKit
/-- With one digit less no number fits. -/
theorem less_not (n : Nat) (h : 1 < dig n) : Lib.nDigits (n + dig n - 1) ≠ dig n - 1 := fun e => by
  have h1 := (dig_spec n).2.2 (dig n - 1) (by omega) (by omega)
  have h2 := lt_of_nDigits (u := n + dig n - 1) (k := dig n - 1) (by omega)
  rw [show n + dig n - 1 = n + (dig n - 1) by omega] at h2
  omega
/-- The other length, where one fits, is none. -/
theorem other_not {k v : List UInt8} (hk : key k = true) (h : Lib.nDigits (nn k v + dig (nn k v) + 1) = dig (nn k v) + 1) (x y : List UInt8) : ¬ Rd (Lib.decDigits (nn k v + dig (nn k v) + 1) ++ tail k v) x y := fun r => by
  obtain ⟨t, e⟩ := r.pre
  have hl : (Lib.decDigits (nn k v + dig (nn k v) + 1) ++ tail k v).length = nn k v + dig (nn k v) + 1 := by
    rw [List.length_append, Lib.decDigits_length, h, tail_length]; omega
  rw [recd, List.append_assoc] at e
  obtain ⟨e1, e2⟩ := split_uniq (no_blank (D_dig _)) (no_blank (D_dig _)) (show Lib.decDigits (nn k v + dig (nn k v) + 1) ++ 32 :: (k ++ 61 :: (v ++ [10])) = Lib.decDigits (LEN (nn x y)) ++ 32 :: (x ++ 61 :: (y ++ [10]) ++ t) from e)
  have e3 := D_inj e1
  rw [List.append_assoc, List.cons_append] at e2
  obtain ⟨e4, e5⟩ := split_uniq ((key_iff _).1 hk).2.1 ((key_iff _).1 r.kk).2.1 e2
  subst e4
  have e6 := congrArg List.length e5
  rw [List.length_append, List.length_append, List.length_append, List.length_singleton] at e6
  have e7 : LEN (nn k y) = nn k y + dig (nn k y) := rfl
  have e8 := nDigits_LEN (nn k y)
  rw [← e3, h] at e8
  have e9 : nn k v = k.length + v.length + 3 := rfl
  have e10 : nn k y = k.length + y.length + 3 := rfl
  have e11 : v.length = y.length := by omega
  have e12 : nn k y = nn k v := by omega
  rw [e12] at e8 e7
  omega
attribute [local go_sem ↓] Go.wp_at_zero Go.wp_at_succ
theorem digits_any (n : Nat) (h1 : 1 ≤ n) (hn : n ≤ 9223372036854775807) (w : World) :
    Calls Tryd.prog 13 #[.int .i64 (n : Int)] w fun e w' => e = .returned (.int .i64 (Lib.nDigits n : Nat)) ∧ w' = w := by
  have hN := nDigits_int hn
  go_enter Tryd.func13, Tryd.ntmps13
  go_wp2_with fail
  go_loop [0, 3] (fun v d => ∃ m j : Nat, v = .int .i64 m ∧ d = .int .i64 j ∧ m ≤ n ∧ j ≤ Lib.nDigits n ∧ ((m = 0 ∧ j = Lib.nDigits n) ∨ (1 ≤ m ∧ j + Lib.nDigits m = Lib.nDigits n))) (fun v _ => (intOf v).toNat)
  case atStart => exact ⟨n, 0, rfl, rfl, Nat.le_refl _, Nat.zero_le _, Or.inr ⟨h1, by omega⟩⟩
  case round =>
    obtain ⟨m, j, rfl, rfl, hm, hj, hd⟩ := hrel
    have HD : Hid ((m = 0 ∧ j = Lib.nDigits n) ∨ (1 ≤ m ∧ j + Lib.nDigits m = Lib.nDigits n)) := ⟨hd⟩
    clear hd
    by_cases h2 : 0 < m
    · have d2 : decide ((0 : Int) < (m : Int)) = true := decide_eq_true (by omega)
      have hX : Hid (((m / 10 = 0 ∧ j + 1 = Lib.nDigits n) ∨ (1 ≤ m / 10 ∧ j + 1 + Lib.nDigits (m / 10) = Lib.nDigits n)) ∧ j + 1 ≤ Lib.nDigits n) := ⟨by
        rcases HD.out with ⟨a, b⟩ | ⟨a, b⟩
        · omega
        · by_cases h3 : m < 10
          · rw [Lib.nDigits_small h3] at b; exact ⟨Or.inl ⟨by omega, b⟩, by omega⟩
          · rw [Lib.nDigits_big h3] at b; exact ⟨Or.inr ⟨by omega, by omega⟩, by omega⟩⟩
      go_wp2_with fail
      go_round
      case rel => exact ⟨m / 10, j + 1, by simp, by go_num, by omega, hX.out.2, hX.out.1⟩
      case measure => simp [intOf]; omega
    · have d2 : decide ((0 : Int) < (m : Int)) = false := decide_eq_false (by omega)
      have hX : Hid (j = Lib.nDigits n) := ⟨by rcases HD.out with ⟨a, b⟩ | ⟨a, b⟩ <;> omega⟩
      go_wp2_with fail
      go_ret
      exact ⟨by rw [← hX.out]; rfl, rfl⟩
theorem info5f : (Tryd.prog.info? 5).map (fun i => (i.zero, i.size, i.bytes)) = some (some (.int .u8 0), 1, 1) := by kernel_rfl
/-- 'make' of so many bytes, and the text of them. -/
theorem zeros (c : Nat) (hc : c ≤ 16383) (W : World) : ∃ M : Array Value, (Instr.makeSlice 32 (.int .i64 (c : Int)) (.int .i64 (c : Int))).run Tryd.prog W = .ok (.slice (some ⟨W.heap.size, 0, none⟩) c c) (W.alloc (.cells M 5)) ∧
    (convert 32 9 (.slice (some ⟨W.heap.size, 0, none⟩) c c)).run Tryd.prog (W.alloc (.cells M 5)) = .ok (.string ⟨(List.replicate c (0 : UInt8)).toArray⟩) (W.alloc (.cells M 5)) := by
  obtain ⟨i0, hi0, hz0, hz1, hz2⟩ : ∃ i, Tryd.prog.info? 5 = some i ∧ i.zero = some (.int .u8 0) ∧ i.size = 1 ∧ i.bytes = 1 := by
    have := info5f
    cases hq : Tryd.prog.info? 5 with
    | none => rw [hq] at this; cases this
    | some i => rw [hq] at this; simp at this; exact ⟨i, rfl, this.1, this.2.1, this.2.2⟩
  have h := run_make (P := Tryd.prog) W 32 5 i0 (.int .u8 0) Tryd.underlying32 hi0 hz0 .i64 .i64 (c : Int) (c : Int) (by omega) (by omega) (by rw [hz2]; omega) (by omega)
  refine ⟨_, h, ?_⟩
  have hh := run_convert_bytes_back (P := Tryd.prog) (W.alloc (.cells (madeCells (Value.int .u8 0).cells ((c : Int).toNat * i0.size)) 5)) 32 9 5 ⟨W.heap.size, 0, none⟩ c (List.replicate c (0 : UInt8)) Tryd.underlying32 Tryd.underlying5 Tryd.underlying9 (by
    intro j hj
    rw [List.length_replicate] at hj
    have hadd : (⟨W.heap.size, 0, none⟩ : Addr).add j = ⟨W.heap.size, j, none⟩ := by unfold Addr.add; split <;> simp_all
    rw [hadd, World.cell?_alloc_new]
    simp [madeCells, hz1, hj, Value.cells]
    rw [Nat.mod_one]
    rfl)
  rw [List.length_replicate] at hh
  exact hh
end Go.Proofs.YtokkoacfmdnmaaaDoor
