/- fixed: the examples. -/
import Derived.Test.YtnnhkpnjmfoenaaFxm
namespace Go.Proofs.Ytnnhkpnjmfoenaa
set_option linter.unusedVariables false
set_option linter.unusedSimpArgs false
open Go.RowKit
attribute [local go_sem ↓] Go.wp_at_zero Go.wp_at_succ
theorem Cp.lis {base : Nat} {w : World} {v : Value} {L : List Vs} (h : Cp base w v L) (hl : L.length ≤ 1954687338240) (hz : ∀ u ∈ L, u.l.length ≤ 4398046510976) : ∃ a c, v = .slice a L.length c ∧ Li w L a L.length c := by
  obtain ⟨a, c, e, s⟩ := h.ls
  exact ⟨a, c, e, rfl, s, hl, hz⟩
theorem li_nil (w : World) : Li w [] none 0 0 := ⟨rfl, Ls.none w, by simp, by simp⟩
theorem sl_nil (w : World) : Sl w none 0 [] := ⟨⟨fun k p hk => by simp at hk⟩, Nat.le_refl _, by omega, fun _ => rfl⟩
theorem z123 {X : List Vs} (h : X = [e1] ∨ X = [e1, e2] ∨ X = [e1, e2, e3]) : ∀ u ∈ X, u.l.length ≤ 4398046510976 := by
  rcases h with rfl | rfl | rfl <;> simp [e1, e2, e3]
/-- New -/
theorem bNew_any (w : World) : Calls Try.prog 21 #[] w fun e w' => e = .returned (bv 1 none 0 0) ∧ Below w.heap.size w w' := by
  have b0 := (Below.refl w.heap.size w).alloc (Nat.le_refl _) (.cells #[.int .i64 0, .slice none 0 0] 26)
  have z0 := Bq.new w (.int .i64 0) (.slice none 0 0)
  have z1 := (z0.set0 (.int .i64 1)).set1 (.slice none 0 0)
  have B1 := (b0.setCell (p := ⟨w.heap.size, 0, none⟩) (Nat.le_refl _) (.int .i64 1)).setCell (p := ⟨w.heap.size, 1, none⟩) (Nat.le_refl _) (.slice none 0 0)
  have b1 := (Below.refl w.heap.size w).alloc (Nat.le_refl _) (.cells #[.int .i64 1, .slice none 0 0] 26)
  have z2 := Bq.new w (.int .i64 1) (.slice none 0 0)
  obtain ⟨g0, g1, _⟩ := z2.cells
  go_enter Try.func21, Try.ntmps21
  go_wp2_with fail
  refine bodyPost_ret (v := bv 1 none 0 0) ?_ rfl ⟨rfl, b1⟩
  rw [results_cell1 rfl]
  go_simp
theorem fPut1 (W : World) : Calls Try.prog 13 #[bv 1 none 0 0, str [107], str [111, 110, 101], .slice none 0 0] W fun e w' => ∃ a c, e = .returned (.tuple #[bv 2 a 1 c, .int .i64 1, .int .i64 0]) ∧ Li w' [e1] a 1 c ∧ Below W.heap.size W w' := by
  refine (bPut_any [] 1 [107] [111, 110, 101] [] W none 0 0 none 0 0 (li_nil W) rfl (sl_nil W) (by simp)).mono ?_
  rintro e w' ⟨i, hi, _, h⟩
  obtain ⟨v, rfl, k, b⟩ := adp1 hi h
  obtain ⟨a, c, rfl, hl⟩ := k.lis (by decide) (z123 (.inl rfl))
  exact ⟨a, c, rfl, hl, b⟩
theorem fPut2 (W : World) (a : Option Addr) (c : Nat) (ma : Option Addr) (mc : Nat) (hL : Li W [e1] a 1 c) (hM : Sl W ma mc [⟨[97], [98]⟩]) : Calls Try.prog 13 #[bv 2 a 1 c, str [107], str [116, 119, 111], .slice ma 1 mc] W fun e w' => ∃ a c, e = .returned (.tuple #[bv 3 a 2 c, .int .i64 2, .int .i64 0]) ∧ Li w' [e1, e2] a 2 c ∧ Below W.heap.size W w' := by
  refine (bPut_any [e1] 2 [107] [116, 119, 111] [⟨[97], [98]⟩] W a 1 c ma 1 mc hL rfl hM (by simp)).mono ?_
  rintro e w' ⟨i, hi, hs, h⟩
  obtain ⟨v, rfl, k, b⟩ := adp2 hs h
  obtain ⟨a, c, rfl, hl⟩ := k.lis (by decide) (z123 (.inr (.inl rfl)))
  exact ⟨a, c, rfl, hl, b⟩
theorem fDel (W : World) (a : Option Addr) (c : Nat) (hL : Li W [e1, e2] a 2 c) : Calls Try.prog 14 #[bv 3 a 2 c, str [107]] W fun e w' => ∃ a c, e = .returned (.tuple #[bv 4 a 3 c, .int .i64 3, .int .i64 0]) ∧ Cp W.heap.size w' (.slice a 3 c) [e1, e2, e3] ∧ Below W.heap.size W w' := by
  refine (bDelete_any [e1, e2] 3 [107] W a 2 c hL).mono ?_
  rintro e w' ⟨i, hi, hs, h⟩
  obtain ⟨v, rfl, k, b⟩ := adp3 hs h
  obtain ⟨a, c, rfl, hl⟩ := k.lis (by decide) (z123 (.inr (.inr rfl)))
  exact ⟨a, c, rfl, k, b⟩
theorem fPut0 (W : World) : Calls Try.prog 13 #[bv 1 none 0 0, str [], str [], .slice none 0 0] W fun e w' => ∃ v, e = .returned (.tuple #[.agg #[.int .i64 0, v], .int .i64 0, .int .i64 61]) ∧ (∃ a n c, v = .slice a n c) ∧ Below W.heap.size W w' := by
  refine (bPut_any [] 1 [] [] [] W none 0 0 none 0 0 (li_nil W) rfl (sl_nil W) (by simp)).mono ?_
  rintro e w' ⟨i, hi, _, h⟩
  obtain ⟨v, rfl, k, b⟩ := adp0 h
  obtain ⟨a, c, rfl, _⟩ := k.ls
  exact ⟨_, rfl, ⟨_, _, _, rfl⟩, b⟩
theorem fGet2 (W : World) (n : Int) (a : Option Addr) (c : Nat) (hL : Li W [e1, e2] a 2 c) : Calls Try.prog 9 #[bv n a 2 c, str [107]] W fun e w' => (∃ a c, e = .returned (.tuple #[vv [107] 2 false [116, 119, 111] a 1 c, .int .i64 0])) ∧ Below W.heap.size W w' := by
  refine (bGet_any [e1, e2] n [107] W a 2 c hL).mono ?_
  rintro e w' ⟨i, hi, hs, h⟩
  obtain ⟨a, c, rfl, _, b⟩ := get2 hs h
  exact ⟨⟨a, c, rfl⟩, b⟩
theorem fGet3 (W : World) (n : Int) (a : Option Addr) (c : Nat) (hL : Li W [e1, e2, e3] a 3 c) : Calls Try.prog 9 #[bv n a 3 c, str [107]] W fun e w' => (∃ a c, e = .returned (.tuple #[vv [] 0 false [] a 0 c, .int .i64 73])) ∧ Below W.heap.size W w' := by
  refine (bGet_any [e1, e2, e3] n [107] W a 3 c hL).mono ?_
  rintro e w' ⟨i, hi, hs, h⟩
  obtain ⟨a, c, rfl, _, b⟩ := get3 hs h
  exact ⟨⟨a, c, rfl⟩, b⟩
theorem fGetV (W : World) (n : Int) (a : Option Addr) (c : Nat) (hL : Li W [e1, e2] a 2 c) : Calls Try.prog 11 #[bv n a 2 c, str [107], .int .i64 1] W fun e w' => (∃ a c, e = .returned (.tuple #[vv [107] 1 false [111, 110, 101] a 0 c, .int .i64 0])) ∧ Below W.heap.size W w' := by
  refine (bGetVersion_any [e1, e2] n [107] 1 W a 2 c hL).mono ?_
  rintro e w' ⟨i, hi, hs, h⟩
  obtain ⟨a, c, rfl, _, b⟩ := getv hs h
  exact ⟨⟨a, c, rfl⟩, b⟩
theorem fRem3 (W : World) (a : Option Addr) (c : Nat) (hL : Li W [e1, e2, e3] a 3 c) : Calls Try.prog 15 #[bv 4 a 3 c, str [107], .int .i64 3] W fun e w' => ∃ a c, e = .returned (.tuple #[bv 4 a 2 c, .int .i64 0]) ∧ Cp W.heap.size w' (.slice a 2 c) [e1, e2] ∧ Below W.heap.size W w' := by
  refine (bDeleteVersion_any [e1, e2, e3] 4 [107] 3 W a 3 c hL).mono ?_
  rintro e w' ⟨i, hi, hs, h⟩
  obtain ⟨v, rfl, k, b⟩ := del3 hs h
  obtain ⟨a, c, rfl, hl⟩ := k.lis (by decide) (z123 (.inr (.inl rfl)))
  exact ⟨a, c, rfl, k, b⟩
theorem fRem9 (W : World) (a : Option Addr) (c : Nat) (hL : Li W [e1, e2, e3] a 3 c) : Calls Try.prog 15 #[bv 4 a 3 c, str [107], .int .i64 9] W fun e w' => (∃ v a n c, e = .returned (.tuple #[.agg #[.int .i64 0, v], .int .i64 72]) ∧ v = .slice a n c) ∧ Below W.heap.size W w' := by
  refine (bDeleteVersion_any [e1, e2, e3] 4 [107] 9 W a 3 c hL).mono ?_
  rintro e w' ⟨i, hi, hs, h⟩
  obtain ⟨v, rfl, k, b⟩ := del9 hs h
  obtain ⟨a, c, rfl, _⟩ := k.ls
  exact ⟨⟨_, _, _, _, rfl, rfl⟩, b⟩
theorem fRt3 (W : World) (a : Option Addr) (c : Nat) (hL : Li W [e1, e2, e3] a 3 c) : Calls Try.prog 17 #[bv 4 a 3 c] W fun e w' => e = .returned (.bool true) ∧ Below W.heap.size W w' := by
  refine (bRight_any [e1, e2, e3] 4 W a 3 c hL).mono ?_
  rintro e w' ⟨⟨t, rfl, ht⟩, b⟩
  exact ⟨by rw [ht.2 right3], b⟩
theorem fRt0 (W : World) : Calls Try.prog 17 #[bv 0 none 0 0] W fun e w' => e = .returned (.bool false) ∧ Below W.heap.size W w' := by
  refine (bRight_any [] 0 W none 0 0 (li_nil W)).mono ?_
  rintro e w' ⟨⟨t, rfl, ht⟩, b⟩
  refine ⟨?_, b⟩
  cases t with
  | false => rfl
  | true => exact absurd (ht.1 rfl) right0
theorem fLst (W : World) (a : Option Addr) (c : Nat) (hL : Li W [e1, e2] a 2 c) : Calls Try.prog 8 #[bv 4 a 2 c, str [], .int .i64 9] W fun e w' => (∃ a c, e = .returned (.slice a 1 c)) ∧ Below W.heap.size W w' := by
  refine (bList_any [e1, e2] 4 [] 9 W a 2 c hL).mono ?_
  rintro e w' ⟨i, hi, hs, v, rfl, o, b⟩
  obtain ⟨a, c, rfl, _⟩ := o.sl
  exact ⟨⟨a, c, by rw [lst2 hs]⟩, b⟩
theorem fVer (W : World) (a : Option Addr) (c : Nat) (hL : Li W [e1, e2, e3] a 3 c) : Calls Try.prog 10 #[bv 4 a 3 c, str [107], .int .i64 9] W fun e w' => (∃ a c, e = .returned (.slice a 3 c)) ∧ Below W.heap.size W w' := by
  refine (bVersions_any [e1, e2, e3] 4 [107] 9 W a 3 c hL).mono ?_
  rintro e w' ⟨i, hi, hs, v, rfl, o, b⟩
  obtain ⟨a, c, rfl, _⟩ := o.sl
  exact ⟨⟨a, c, by rw [ver3 hs]⟩, b⟩
theorem fByt (W : World) (a : Option Addr) (c : Nat) (hL : Li W [e1] a 1 c) : Calls Try.prog 16 #[bv 2 a 1 c] W fun e w' => e = .returned (.int .i64 36) ∧ Below W.heap.size W w' := by
  refine (bBytes_any [e1] 2 W a 1 c hL).mono ?_
  rintro e w' ⟨rfl, b⟩
  exact ⟨by rw [bw1], b⟩
theorem Cp.li3 {base : Nat} {w : World} {a : Option Addr} {c : Nat} (h : Cp base w (.slice a 3 c) [e1, e2, e3]) : Li w [e1, e2, e3] a 3 c := by
  obtain ⟨a', c', e, hl⟩ := h.lis (by decide) (z123 (.inr (.inr rfl)))
  injection e with q1 q2 q3
  subst q1 q3
  exact hl
theorem Cp.li2 {base : Nat} {w : World} {a : Option Addr} {c : Nat} (h : Cp base w (.slice a 2 c) [e1, e2]) : Li w [e1, e2] a 2 c := by
  obtain ⟨a', c', e, hl⟩ := h.lis (by decide) (z123 (.inr (.inl rfl)))
  injection e with q1 q2 q3
  subst q1 q3
  exact hl
theorem Bq.other {w : World} {g : Nat} {x y : Value} (h : Bq w g x y) {g2 j : Nat} (hg : g ≠ g2) (c : Value) : Bq (w.setCell ⟨g2, j, none⟩ c) g x y := by
  unfold Bq
  rw [heap_setCell_other _ _ _ _ (by first | exact hg | exact hg.symm)]; exact h
theorem Bq.s5 {w : World} {g : Nat} {x y : Value} (h : Bq w g x y) {R : Nat} (hg : g ≠ R) (a b c d e : Value) : Bq (s5 w R a b c d e) g x y := ((((h.other hg a).other hg b).other hg c).other hg d).other hg e
theorem Cp.s5 {base : Nat} {w : World} {v : Value} {L : List Vs} (h : Cp base w v L) {R : Nat} (hg : R < base) (a b c d e : Value) : Cp base (s5 w R a b c d e) v L := ((((h.low hg a).low hg b).low hg c).low hg d).low hg e
end Go.Proofs.Ytnnhkpnjmfoenaa
