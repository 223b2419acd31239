/- The digits of a number; is it a key; the record's length. -/
import Derived.Test.YtokkoacfmdnmaaaDoorBase
import Derived.Test.YtokkoacfmdnmaaaDoorShelf
import Derived.Lib.AppendIntMem
namespace Go.Proofs.YtokkoacfmdnmaaaDoor
set_option linter.unusedVariables false
set_option linter.unusedSimpArgs false
open Go.RowKit
/-- The table of the powers of ten lies in the world. -/
structure TB (w : World) : Prop where
  out : Lib.TabIs Tryd.prog w "internal/strconv.uint64pow10" .u64 Lib.pow10Tab
theorem TB.below {w w' : World} (h : TB w) (b : Below w.heap.size w w') : TB w' := ⟨Lib.tabBelow_of_tabIs h.out w' b⟩
theorem below_seq {w w1 w2 : World} (a : Below w.heap.size w w1) (b : Below w1.heap.size w1 w2) : Below w.heap.size w w2 := a.trans (b.mono a.size)
theorem itoa_any (n : Nat) (hn : n ≤ 9223372036854775807) (w : World) (ht : TB w) :
    Calls Tryd.prog 20 #[.int .i64 (n : Int)] w fun e w' => e = .returned (str (Lib.decDigits n)) ∧ Below w.heap.size w w' := by
  refine (Tryd.strconv_Itoa n (by omega) (by omega) w ht.out).mono ?_
  rintro e w' ⟨rfl, k, os, rfl⟩
  exact ⟨by rw [Lib.itoa_nonneg], Lib.below_grow _ _ (Nat.le_refl _) _ _⟩
theorem has_any (s : ByteArray) (c : UInt8) (w : World) : Calls Tryd.prog 31 #[.string s, .string ⟨#[c]⟩] w fun e w' => e = .returned (.bool (s.data.toList.contains c)) ∧ w' = w := by
  refine (Tryd.strings_Contains_one s c w).mono ?_
  rintro e w' ⟨rfl, rfl⟩
  exact ⟨by rw [index_iff], rfl⟩
theorem isKey_any (s : ByteArray) (w : World) : Calls Tryd.prog 18 #[.string s] w fun e w' => e = .returned (.bool (key s.data.toList)) ∧ w' = w := by
  obtain ⟨l, hl⟩ : ∃ l, l = s.data.toList := ⟨_, rfl⟩
  have he : s.toList.isEmpty = l.isEmpty := by rw [toList_empty, hl]
  have c1 := fun w => has_any s 61 w
  have c2 := fun w => has_any s 10 w
  rw [← hl] at c1 c2 ⊢
  have HL : Hid (l = s.data.toList) := ⟨hl⟩
  clear hl
  have hk : key l = (!l.isEmpty && !l.contains 61 && !l.contains 10) := rfl
  generalize hK : key l = K at *
  clear hK
  generalize l.isEmpty = x at *
  generalize l.contains 61 = y at *
  generalize l.contains 10 = z at *
  subst hk
  go_enter Tryd.func18, Tryd.ntmps18
  cases x
  · cases y
    · go_wp2_with (go_at_call 31; with_reducible refine Calls.mono (by first | exact c1 _ | exact c2 _) ?_; rintro e w' ⟨rfl, rfl⟩)
      go_ret
      exact ⟨by cases z <;> rfl, rfl⟩
    · go_wp2_with (go_at_call 31; with_reducible refine Calls.mono (by first | exact c1 _ | exact c2 _) ?_; rintro e w' ⟨rfl, rfl⟩)
      go_ret
      exact ⟨rfl, rfl⟩
  · go_wp2_with fail
    go_ret
    exact ⟨rfl, rfl⟩
/-- What the loop over the digits knows. -/
structure Fit (n d : Nat) : Prop where
  pos : 1 ≤ d
  up : ∀ j, 1 ≤ j → j < d → 10 ^ j ≤ n + j
  le : d ≤ 19
theorem Fit.one (n : Nat) : Fit n 1 := ⟨Nat.le_refl _, fun j a b => by omega, by decide⟩
theorem Fit.next {n d : Nat} (hn : n ≤ 4611686018427387904) (h : Fit n d) (hne : Lib.nDigits (n + d) ≠ d) : Fit n (d + 1) := by
  have hu : ∀ j, 1 ≤ j → j < d + 1 → 10 ^ j ≤ n + j := fun j a b => by
    by_cases e : j = d
    · subst e; exact fit_go a h.up hne
    · exact h.up j a (by omega)
  exact ⟨by omega, hu, fit_bound hn hu⟩
theorem Fit.done {n d : Nat} (h : Fit n d) (he : Lib.nDigits (n + d) = d) : n + d = LEN n := by unfold LEN; rw [← fit_exit h.pos h.up he]
attribute [local go_sem ↓] Go.wp_at_zero Go.wp_at_succ
theorem length_any (s t : ByteArray) (hs : s.size + t.size ≤ 1125899906842624) (w : World) (ht : TB w) :
    Calls Tryd.prog 19 #[.string s, .string t] w fun e w' => e = .returned (.int .i64 (LEN (s.size + t.size + 3))) ∧ Below w.heap.size w w' := by
  obtain ⟨n, hn⟩ : ∃ n, n = s.size + t.size + 3 := ⟨_, rfl⟩
  have hN : n ≤ 4611686018427387904 := by omega
  have HN : Hid (n = s.size + t.size + 3) := ⟨hn⟩
  rw [← hn]
  clear hn
  go_enter Tryd.func19, Tryd.ntmps19
  go_wp2_with fail
  go_loopw [6] (fun i wr => ∃ d : Nat, i = .int .i64 d ∧ Fit n d ∧ Below w.heap.size w wr) (fun i _ => 19 - (intOf i).toNat)
  case atStart => exact ⟨1, rfl, Fit.one n, Below.refl _ _⟩
  case round =>
    obtain ⟨d, rfl, hf, hb⟩ := hrel
    have hl := hf.le
    have hi : Calls Tryd.prog 20 #[.int .i64 ((s.size : Int) + (t.size : Int) + 3 + (d : Int))] wr fun e w' => e = .returned (.string ⟨(Lib.decDigits (n + d)).toArray⟩) ∧ Below wr.heap.size wr w' := by
      have := itoa_any (n + d) (by omega) wr (ht.below hb)
      rwa [show ((n + d : Nat) : Int) = (s.size : Int) + (t.size : Int) + 3 + (d : Int) by rw [HN.out]; omega] at this
    have hsz : (⟨(Lib.decDigits (n + d)).toArray⟩ : ByteArray).size = Lib.nDigits (n + d) := by rw [← Lib.decDigits_length]; rfl
    generalize (⟨(Lib.decDigits (n + d)).toArray⟩ : ByteArray) = q at *
    by_cases h1 : Lib.nDigits (n + d) = d
    · have hq : q.size = d := by omega
      have hL : Hid (n + d = LEN n) := ⟨hf.done h1⟩
      clear hsz h1
      have d1 : ((q.size : Int) == (d : Int)) = true := by rw [hq]; exact beq_self_eq_true _
      go_wp2_with (go_at_call 20; refine hi.mono ?_; rintro e w' ⟨rfl, hb1⟩)
      go_ret
      refine ⟨?_, below_seq hb hb1⟩
      have a1 := HN.out; have a2 := hL.out
      show Ending.returned (.int .i64 ((s.size : Int) + (t.size : Int) + 3 + (d : Int))) = _
      rw [show (s.size : Int) + (t.size : Int) + 3 + (d : Int) = ((LEN n : Nat) : Int) by omega]
    · have HF : Hid (Fit n (d + 1)) := ⟨hf.next hN h1⟩
      have hq : ¬ q.size = d := by omega
      clear hsz h1
      have d1 : ((q.size : Int) == (d : Int)) = false := beq_eq_false_iff_ne.2 (by omega)
      go_wp2_with (go_at_call 20; refine hi.mono ?_; rintro e w' ⟨rfl, hb1⟩)
      go_round
      case rel => exact ⟨d + 1, by go_num, HF.out, below_seq hb hb1⟩
      case measure => have := HF.out.le; simp [intOf]; omega
end Go.Proofs.YtokkoacfmdnmaaaDoor
