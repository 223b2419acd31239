/- size, Size: sums of 64 bits. -/
import Derived.Test.YtibmnpkmbhjniaaRow
namespace Go.Proofs.Ytibmnpkmbhjniaa
set_option linter.unusedVariables false
set_option linter.unusedSimpArgs false
open Go.RowKit
theorem wrap_eq (x : Int) : wrap64 x = (x + 9223372036854775808) % 18446744073709551616 - 9223372036854775808 := by
  have h1 := Int.emod_nonneg x (show (18446744073709551616 : Int) ≠ 0 by decide)
  have h2 := Int.emod_lt_of_pos x (show (0 : Int) < 18446744073709551616 by decide)
  unfold wrap64
  omega
theorem wrap_add (a b : Int) : wrap64 (wrap64 a + wrap64 b) = wrap64 (a + b) := by
  simp only [wrap_eq]; omega
theorem wrap_sub (a b : Int) : wrap64 (wrap64 a - wrap64 b) = wrap64 (a - b) := by
  simp only [wrap_eq]; omega
theorem wrap_small {a : Int} (h1 : -9223372036854775808 ≤ a) (h2 : a ≤ 9223372036854775807) : wrap64 a = a := by
  rw [wrap_eq]; omega
noncomputable def szw (p : En) : Int := wrap64 (sz p : Int)
noncomputable def totw (l : List En) : Int := wrap64 (tot l : Int)
theorem totw_nil : totw [] = 0 := by unfold totw; rw [tot_nil, wrap_small] <;> decide
theorem totw_take {l : List En} {k : Nat} {e : En} (h : l[k]? = some e) : wrap64 (totw (l.take k) + szw e) = totw (l.take (k + 1)) := by
  unfold totw szw
  rw [wrap_add, tot_take h]
  congr 1
theorem size_any (p : En) (w : World) : Calls Try.prog 37 #[pv p] w fun e w' => e = .returned (.int .i64 (szw p)) ∧ Below w.heap.size w w' := by
  have e : szw p = wrap64 (wrap64 (2 + (p.key.length : Int)) + (p.val.length : Int)) := by
    unfold szw sz
    simp only [wrap_eq]
    omega
  rw [e]
  obtain ⟨a, b⟩ := p
  go_enter Try.func37, Try.ntmps37
  go_wp2
  go_ret
  exact ⟨by simp [str_size], (Below.refl _ _).alloc (Nat.le_refl _) _⟩
attribute [local go_sem ↓] Go.wp_at_zero Go.wp_at_succ
theorem Size_any (l : List En) (w : World) (a : Option Addr) (cap : Nat) (hP : PIn w a l) (hl : l.length ≤ 9223372036854775807) :
    Calls Try.prog 14 #[.slice a l.length cap] w fun e w' => e = .returned (.int .i64 (totw l)) ∧ Below w.heap.size w w' := by
  go_enter Try.func14, Try.ntmps14
  go_wp2_with fail
  go_loopw [3, 8] (fun s i wr => ∃ k : Nat, k ≤ l.length ∧ i = .int .i64 (k : Int) ∧ s = .int .i64 (totw (l.take k)) ∧ Below w.heap.size w wr) (fun _ i _ => l.length - (intOf i).toNat)
  case atStart => exact ⟨0, by omega, rfl, by rw [List.take_zero, totw_nil], Below.refl _ _⟩
  case round =>
    obtain ⟨k, hk, rfl, rfl, hb⟩ := hrel
    by_cases hlt : k < l.length
    · have hd : decide ((k : Int) < (l.length : Int)) = true := decide_eq_true (by omega)
      obtain ⟨p, hp⟩ : ∃ p, l[k]? = some p := ⟨l[k], List.getElem?_eq_getElem hlt⟩
      obtain ⟨b, off, rfl, hbl, c0, c1⟩ := (hP.later hb).get k p hp
      have hX := totw_take hp
      have hsz := fun w => size_any p w
      generalize totw (l.take k) = A at *
      generalize hB : totw (l.take (k + 1)) = B at *
      generalize szw p = C at *
      go_wp2_with (go_at_call 37; refine (hsz _).mono ?_; rintro e w1 ⟨rfl, hb1⟩)
      exact ⟨⟨k + 1, by omega, by go_num, by rw [hB, hX], (hb.alloc hb.size _).trans (hb1.mono (by have := hb.size; simp; omega))⟩, by simp [intOf]; omega⟩
    · obtain rfl : k = l.length := by omega
      have hd : decide ((l.length : Int) < (l.length : Int)) = false := decide_eq_false (by omega)
      rw [List.take_length]
      go_wp2_with fail
      go_ret
      exact ⟨rfl, hb⟩
/-- the search for the best cut -/
structure CS where
  at' : Nat
  least : Int
  first : Int
  second : Int
noncomputable def cst (l : List En) : Nat → CS
  | 0 => ⟨l.length, totw l, 0, totw l⟩
  | k + 1 => match l[k]? with
    | none => cst l k
    | some e => if (if wrap64 ((cst l k).first + szw e) < wrap64 ((cst l k).second - szw e) then wrap64 ((cst l k).second - szw e) else wrap64 ((cst l k).first + szw e)) < (cst l k).least
        then ⟨k + 1, (if wrap64 ((cst l k).first + szw e) < wrap64 ((cst l k).second - szw e) then wrap64 ((cst l k).second - szw e) else wrap64 ((cst l k).first + szw e)), wrap64 ((cst l k).first + szw e), wrap64 ((cst l k).second - szw e)⟩
        else ⟨(cst l k).at', (cst l k).least, wrap64 ((cst l k).first + szw e), wrap64 ((cst l k).second - szw e)⟩
theorem cst_yes {l : List En} {k : Nat} {e : En} (h : l[k]? = some e) (hd : (if wrap64 ((cst l k).first + szw e) < wrap64 ((cst l k).second - szw e) then wrap64 ((cst l k).second - szw e) else wrap64 ((cst l k).first + szw e)) < (cst l k).least) :
    cst l (k + 1) = ⟨k + 1, (if wrap64 ((cst l k).first + szw e) < wrap64 ((cst l k).second - szw e) then wrap64 ((cst l k).second - szw e) else wrap64 ((cst l k).first + szw e)), wrap64 ((cst l k).first + szw e), wrap64 ((cst l k).second - szw e)⟩ := by
  rw [cst, h]; simp only; rw [if_pos hd]
theorem cst_no {l : List En} {k : Nat} {e : En} (h : l[k]? = some e) (hd : ¬ (if wrap64 ((cst l k).first + szw e) < wrap64 ((cst l k).second - szw e) then wrap64 ((cst l k).second - szw e) else wrap64 ((cst l k).first + szw e)) < (cst l k).least) :
    cst l (k + 1) = ⟨(cst l k).at', (cst l k).least, wrap64 ((cst l k).first + szw e), wrap64 ((cst l k).second - szw e)⟩ := by
  rw [cst, h]; simp only; rw [if_neg hd]
theorem cst_le (l : List En) : ∀ k, (cst l k).at' ≤ l.length
  | 0 => Nat.le_refl _
  | k + 1 => by
    have ih := cst_le l k
    cases h : l[k]? with
    | none => rw [cst, h]; exact ih
    | some e =>
      have hk := (List.getElem?_eq_some_iff.1 h).1
      by_cases hd : (if wrap64 ((cst l k).first + szw e) < wrap64 ((cst l k).second - szw e) then wrap64 ((cst l k).second - szw e) else wrap64 ((cst l k).first + szw e)) < (cst l k).least
      · rw [cst_yes h hd]; show k + 1 ≤ l.length; omega
      · rw [cst_no h hd]; exact ih
noncomputable def cutw (l : List En) : Nat := (cst l (l.length - 1)).at'
theorem cutw_le (l : List En) : cutw l ≤ l.length := cst_le _ _
set_option maxHeartbeats 1000000 in
theorem cut_any (l : List En) (w : World) (a : Option Addr) (cap : Nat) (hP : PIn w a l) (hl : l.length ≤ 9223372036854775806) :
    Calls Try.prog 43 #[.slice a l.length cap] w fun e w' => e = .returned (.int .i64 (cutw l : Int)) ∧ Below w.heap.size w w' := by
  have hS := Size_any l w a cap hP (by omega)
  have HF : Hid (cutw l = (cst l (l.length - 1)).at') := ⟨rfl⟩
  have H0 : Hid (cst l 0 = ⟨l.length, totw l, 0, totw l⟩) := ⟨rfl⟩
  generalize totw l = TT at *
  go_enter Try.func43, Try.ntmps43
  go_wp2_with (go_at_call 14; refine hS.mono ?_; rintro e w0 ⟨rfl, hb0⟩)
  go_loopw [3, 4, 5, 6, 7] (fun A L P S i wr => ∃ k j : Nat, Hid (j = k + 1 ∧ k ≤ l.length - 1) ∧ i = .int .i64 (j : Int) ∧ A = .int .i64 ((cst l k).at' : Int) ∧ L = .int .i64 (cst l k).least ∧ P = .int .i64 (cst l k).first ∧ S = .int .i64 (cst l k).second ∧ Below w.heap.size w wr) (fun _ _ _ _ i _ => l.length + 1 - (intOf i).toNat)
  case atStart => exact ⟨0, 1, ⟨rfl, by omega⟩, rfl, by rw [H0.out], by rw [H0.out], by rw [H0.out], by rw [H0.out], hb0⟩
  case round =>
    obtain ⟨k, j, HK, rfl, rfl, rfl, rfl, rfl, hb⟩ := hrel
    by_cases hlt : j < l.length
    · have hd : decide ((j : Int) < (l.length : Int)) = true := decide_eq_true (by omega)
      obtain ⟨p, hp⟩ : ∃ p, l[k]? = some p := ⟨l[k]'(by have := HK.out; omega), List.getElem?_eq_getElem (by have := HK.out; omega)⟩
      obtain ⟨b, off, rfl, hbl, c0, c1⟩ := (hP.later hb).get k p hp
      have hk0 : k = j - 1 := by have := HK.out; omega
      rw [hk0] at c0 c1
      have hj : 1 ≤ j := by have := HK.out; omega
      have hk2 : (j : Int) - 1 < (l.length : Int) := by have := HK.out; omega
      have hsz := fun w => size_any p w
      clear hk0
      by_cases hm : (if wrap64 ((cst l k).first + szw p) < wrap64 ((cst l k).second - szw p) then wrap64 ((cst l k).second - szw p) else wrap64 ((cst l k).first + szw p)) < (cst l k).least
      · have HC := Hid.mk (cst_yes hp hm)
        have hdm := decide_eq_true hm
        clear hm
        generalize hq1 : (cst l k).first = q1 at *
        generalize hq2 : (cst l k).second = q2 at *
        generalize hq3 : (cst l k).least = q3 at *
        generalize hq4 : (cst l k).at' = q4 at *
        generalize szw p = Z at *
        clear hq1 hq2 hq3 hq4
        go_wp2_with fail
        refine (hsz _).mono ?_
        rintro e w1 ⟨rfl, hb1⟩
        have d0 := (Below.cell (p := ⟨b, _, none⟩) hb1 hbl).trans c0
        have d1 := (Below.cell (p := ⟨b, _, none⟩) hb1 hbl).trans c1
        dsimp only
        go_wp2_with fail
        refine (hsz _).mono ?_
        rintro e w2 ⟨rfl, hb2⟩
        dsimp only
        have HB : Hid (Below w.heap.size w w2) := ⟨(hb.trans (hb1.mono hb.size)).trans (hb2.mono (Nat.le_trans hb.size hb1.size))⟩
        clear hb1 hb2
        go_wp2_with fail
        exact ⟨⟨k + 1, j + 1, ⟨by have := HK.out; omega, by have := HK.out; omega⟩, by go_num, by rw [HC.out]; rw [HK.out.1], by rw [HC.out], by rw [HC.out], by rw [HC.out], HB.out⟩, by simp [intOf]; omega⟩
      · have HC := Hid.mk (cst_no hp hm)
        have hdm := decide_eq_false hm
        clear hm
        generalize hq1 : (cst l k).first = q1 at *
        generalize hq2 : (cst l k).second = q2 at *
        generalize hq3 : (cst l k).least = q3 at *
        generalize hq4 : (cst l k).at' = q4 at *
        generalize szw p = Z at *
        clear hq1 hq2 hq3 hq4
        go_wp2_with fail
        refine (hsz _).mono ?_
        rintro e w1 ⟨rfl, hb1⟩
        have d0 := (Below.cell (p := ⟨b, _, none⟩) hb1 hbl).trans c0
        have d1 := (Below.cell (p := ⟨b, _, none⟩) hb1 hbl).trans c1
        dsimp only
        go_wp2_with fail
        refine (hsz _).mono ?_
        rintro e w2 ⟨rfl, hb2⟩
        dsimp only
        have HB : Hid (Below w.heap.size w w2) := ⟨(hb.trans (hb1.mono hb.size)).trans (hb2.mono (Nat.le_trans hb.size hb1.size))⟩
        clear hb1 hb2
        go_wp2_with fail
        exact ⟨⟨k + 1, j + 1, ⟨by have := HK.out; omega, by have := HK.out; omega⟩, by go_num, by rw [HC.out], by rw [HC.out], by rw [HC.out], by rw [HC.out], HB.out⟩, by simp [intOf]; omega⟩
    · have hd : decide ((j : Int) < (l.length : Int)) = false := decide_eq_false (by omega)
      obtain rfl : k = l.length - 1 := by have := HK.out; omega
      go_wp2_with fail
      go_ret
      exact ⟨by rw [HF.out]; rfl, hb⟩
end Go.Proofs.Ytibmnpkmbhjniaa
