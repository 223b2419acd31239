/- The document's Split. -/
import Derived.Test.YtibmnpkmbhjniaaLst
namespace Go.Proofs.Ytibmnpkmbhjniaa
set_option linter.unusedVariables false
set_option linter.unusedSimpArgs false
open Go.RowKit
attribute [local go_sem ↓] Go.wp_at_zero Go.wp_at_succ
attribute [local go_sem ↓] slPe sl9
/-- the document's search: the best so far, and its greater part -/
def rc (l : List En) : Nat → Nat × Int
  | 0 => (l.length, -1)
  | k + 1 => ((cn l (k + 1)).1, ((cn l (k + 1)).2 : Int))
theorem rc_le (l : List En) : ∀ k, k < l.length ∨ k = 0 → (rc l k).1 ≤ l.length
  | 0, _ => Nat.le_refl _
  | k + 1, h => by
    have := cn_best (l := l) (k + 1) (by omega) (by omega)
    show (cn l (k + 1)).1 ≤ l.length
    omega
theorem rc_yes {l : List En} {k : Nat} (hk : k + 1 < l.length) (h : (rc l k).2 < 0 ∨ (gr l (k + 1) : Int) < (rc l k).2) : rc l (k + 1) = (k + 1, (gr l (k + 1) : Int)) := by
  obtain ⟨e, he⟩ : ∃ e, l[k]? = some e := ⟨l[k]'(by omega), List.getElem?_eq_getElem (by omega)⟩
  have hc : gr l (k + 1) < (cn l k).2 := by
    cases k with
    | zero => exact gr_lt (by omega) hk
    | succ k =>
      rcases h with h | h
      · have : (0 : Int) ≤ (rc l (k + 1)).2 := Int.natCast_nonneg _
        omega
      · have h2 : (gr l (k + 1 + 1) : Int) < ((cn l (k + 1)).2 : Int) := h
        omega
  show ((cn l (k + 1)).1, ((cn l (k + 1)).2 : Int)) = _
  rw [cn_yes he hc]
theorem rc_no {l : List En} {k : Nat} (hk : k + 1 < l.length) (h : ¬ (rc l k).2 < 0) (h2 : ¬ (gr l (k + 1) : Int) < (rc l k).2) : rc l (k + 1) = rc l k := by
  obtain ⟨e, he⟩ : ∃ e, l[k]? = some e := ⟨l[k]'(by omega), List.getElem?_eq_getElem (by omega)⟩
  cases k with
  | zero => exact absurd (show (-1 : Int) < 0 by decide) h
  | succ k =>
    have hc : ¬ gr l (k + 1 + 1) < (cn l (k + 1)).2 := fun q => h2 (by show (gr l (k + 1 + 1) : Int) < ((cn l (k + 1)).2 : Int); omega)
    show ((cn l (k + 1 + 1)).1, ((cn l (k + 1 + 1)).2 : Int)) = ((cn l (k + 1)).1, ((cn l (k + 1)).2 : Int))
    rw [cn_no he hc]
theorem rc_end {l : List En} (h : tot l ≤ 4000000000000000000) : (rc l (l.length - 1)).1 = cutw l := by
  rw [cutw_cn h]
  cases hl : l.length - 1 with
  | zero => rfl
  | succ k => rfl
set_option maxHeartbeats 4000000 in
theorem rSplit_any (l : List En) (w : World) (a : Option Addr) (n cap : Nat) (hn : l.length = n) (hS : Sl w a cap l) (hl : l.length ≤ 1000000000) (ht : tot l ≤ 4000000000000000000) :
    Calls Try.prog 31 #[.slice a n cap] w (SplitP w l (cutw l)) := by
  subst hn
  have HP : Hid (∀ x y w', Tw w.heap.size w' x (l.take (cutw l)) y (l.drop (cutw l)) → Below w.heap.size w w' → SplitP w l (cutw l) (.returned (.tuple #[x, y])) w') := ⟨fun x y w' h1 h2 => ⟨x, y, rfl, h1, h2⟩⟩
  have HE := Hid.mk (rc_end ht)
  generalize SplitP w l (cutw l) = PP at *
  go_enter Try.func31, Try.ntmps31
  go_wp2_with fail
  go_loopw [4, 5, 6] (fun B L i wr => ∃ k j : Nat, Hid (j = k + 1 ∧ k ≤ l.length - 1) ∧ i = .int .i64 (j : Int) ∧ B = .int .i64 ((rc l k).1 : Int) ∧ L = .int .i64 (rc l k).2 ∧ Below w.heap.size w wr) (fun _ _ i _ => l.length + 1 - (intOf i).toNat)
  case atStart => exact ⟨0, 1, ⟨rfl, by omega⟩, rfl, rfl, rfl, Below.refl _ _⟩
  case round =>
    obtain ⟨k, j, HK, rfl, rfl, rfl, hb⟩ := hrel
    by_cases hlt : j < l.length
    · have hd : decide ((j : Int) < (l.length : Int)) = true := decide_eq_true (by omega)
      have hks := tot_split l j
      have t1 : totw (l.take j) = (tot (l.take j) : Int) := totw_small (by omega)
      have t2 : totw (l.drop j) = (tot (l.drop j) : Int) := totw_small (by omega)
      have r1 := fun w => run_slP a l.length cap j (by have := hS.le; omega) hS.max hS.nil w
      have r2 := fun w => run_slP_lo a l.length cap j (by omega) hS.le hS.max hS.nil w
      have c1 := fun w' (h : Below w.heap.size w w') => rSize_any (l.take j) w' a j cap (by rw [List.length_take]; omega) ((hS.later h).take j).at' (by rw [List.length_take]; omega)
      have c2 := fun w' (h : Below w.heap.size w w') => rSize_any (l.drop j) w' (dropA a cap j) (l.length - j) (cap - j) List.length_drop ((hS.later h).drop j (by omega)).at' (by rw [List.length_drop]; omega)
      rw [t1] at c1
      rw [t2] at c2
      have HG : Hid ((gr l j : Int) = max (tot (l.take j) : Int) (tot (l.drop j) : Int)) := ⟨by
        unfold gr
        by_cases q : tot (l.take j) < tot (l.drop j)
        · rw [if_pos q]; omega
        · rw [if_neg q]; omega⟩
      have HY : Hid ((rc l k).2 < 0 ∨ (gr l j : Int) < (rc l k).2 → rc l (k + 1) = (j, (gr l j : Int))) := ⟨fun h => by rw [HK.out.1] at h ⊢; exact rc_yes (by have := HK.out; omega) h⟩
      have HN : Hid (¬ (rc l k).2 < 0 → ¬ (gr l j : Int) < (rc l k).2 → rc l (k + 1) = rc l k) := ⟨fun h h2 => by rw [HK.out.1] at h2; exact rc_no (by have := HK.out; omega) h h2⟩
      generalize tot (l.take j) = T1 at *
      generalize tot (l.drop j) = T2 at *
      generalize dropA a cap j = ad at *
      generalize hg : (gr l j : Int) = G at *
      generalize hR : rc l k = R at *
      obtain ⟨R1, R2⟩ := R
      dsimp only at *
      clear t1 t2 hks
      by_cases h0 : R2 < 0
      · have d0 : decide (R2 < 0) = true := decide_eq_true h0
        have HC := Hid.mk (HY.out (Or.inl h0))
        clear h0 HY HN
        go_wp2_with fail
        go_region_held3 (fun w' => Below w.heap.size w w') (first | exact hb.drew | exact below_seq hb.drew bx | exact below_seq (below_seq hb.drew bx) bY | exact below_seq hb.drew bY | exact below_seq (below_seq hb.drew bY) bx) (first
          | (go_at_call 28; with_reducible refine Calls.mono (c1 _ (by assumption)) ?_; rintro e w1 ⟨rfl, bx⟩)
          | (go_at_call 28; with_reducible refine Calls.mono (c2 _ (by assumption)) ?_; rintro e w2 ⟨rfl, bY⟩))
        have HB : Hid (Below w.heap.size w w2) := ⟨by assumption⟩
        go_wp2_with fail
        exact ⟨⟨k + 1, j + 1, ⟨by have := HK.out; omega, by have := HK.out; omega⟩, by go_num, by rw [HC.out], by rw [HC.out, HG.out], HB.out⟩, by simp [intOf]; omega⟩
      · have d0 : decide (R2 < 0) = false := decide_eq_false h0
        by_cases h1 : G < R2
        · have HC := Hid.mk (HY.out (Or.inr h1))
          have d1 : decide (max (T1 : Int) (T2 : Int) < R2) = true := by rw [← HG.out]; exact decide_eq_true h1
          clear h0 h1 HY HN
          go_wp2_with fail
          go_region_held3 (fun w' => Below w.heap.size w w') (first | exact hb.drew | exact below_seq hb.drew bx | exact below_seq (below_seq hb.drew bx) bY | exact below_seq hb.drew bY | exact below_seq (below_seq hb.drew bY) bx) (first
            | (go_at_call 28; with_reducible refine Calls.mono (c1 _ (by assumption)) ?_; rintro e w1 ⟨rfl, bx⟩)
            | (go_at_call 28; with_reducible refine Calls.mono (c2 _ (by assumption)) ?_; rintro e w2 ⟨rfl, bY⟩))
          have HB : Hid (Below w.heap.size w w2) := ⟨by assumption⟩
          go_wp2_with fail
          exact ⟨⟨k + 1, j + 1, ⟨by have := HK.out; omega, by have := HK.out; omega⟩, by go_num, by rw [HC.out], by rw [HC.out, HG.out], HB.out⟩, by simp [intOf]; omega⟩
        · have HC := Hid.mk (HN.out h0 h1)
          have d1 : decide (max (T1 : Int) (T2 : Int) < R2) = false := by rw [← HG.out]; exact decide_eq_false h1
          clear h0 h1 HY HN
          go_wp2_with fail
          go_region_held3 (fun w' => Below w.heap.size w w') (first | exact hb.drew | exact below_seq hb.drew bx | exact below_seq (below_seq hb.drew bx) bY | exact below_seq hb.drew bY | exact below_seq (below_seq hb.drew bY) bx) (first
            | (go_at_call 28; with_reducible refine Calls.mono (c1 _ (by assumption)) ?_; rintro e w1 ⟨rfl, bx⟩)
            | (go_at_call 28; with_reducible refine Calls.mono (c2 _ (by assumption)) ?_; rintro e w2 ⟨rfl, bY⟩))
          have HB : Hid (Below w.heap.size w w2) := ⟨by assumption⟩
          go_wp2_with fail
          exact ⟨⟨k + 1, j + 1, ⟨by have := HK.out; omega, by have := HK.out; omega⟩, by go_num, by rw [HC.out], by rw [HC.out], HB.out⟩, by simp [intOf]; omega⟩
    · have hd : decide ((j : Int) < (l.length : Int)) = false := decide_eq_false (by omega)
      obtain rfl : k = l.length - 1 := by have := HK.out; omega
      have e1 := HE.out
      have hcl := cutw_le l
      rw [e1]
      clear e1 HE
      have r1 := fun w => run_slP a l.length cap (cutw l) (by have := hS.le; omega) hS.max hS.nil w
      have r2 := fun w => run_slP_lo a l.length cap (cutw l) hcl hS.le hS.max hS.nil w
      have s1 := hS.take (cutw l)
      have s2 := hS.drop (cutw l) hcl
      have l1 : (l.take (cutw l)).length = cutw l := by rw [List.length_take]; omega
      have l2 : (l.drop (cutw l)).length = l.length - cutw l := List.length_drop
      generalize l.take (cutw l) = X at *
      generalize l.drop (cutw l) = Y at *
      generalize dropA a cap (cutw l) = ad at *
      generalize cutw l = c at *
      go_wp2_with fail
      go_region_held3 (fun w' => Below w.heap.size w w') (first | exact hb.drew | exact below_seq hb.drew bx | exact below_seq (below_seq hb.drew bx) bY | exact below_seq hb.drew bY | exact below_seq (below_seq hb.drew bY) bx) (first
        | (refine step_app rfl _ _ rfl X (Ow.nil _ _ (Nat.le_refl _)) (s1.later (by assumption)) l1 (by simp; omega) rfl rfl ?_; intro vx wx ox bx)
        | (refine step_app rfl _ _ rfl Y (Ow.nil _ _ (Nat.le_refl _)) (s2.later (by assumption)) l2 (by simp; omega) rfl rfl ?_; intro vy wy oy bY))
      all_goals rw [List.nil_append] at ox oy
      all_goals go_wp2_with fail
      all_goals first
        | exact HP.out _ _ _ (tw_of (w0 := wr.drew) hb.size ox (Below.refl _ _) oy bY) (below_seq (below_seq hb.drew bx) bY)
        | exact HP.out _ _ _ (Tw.symm (tw_of (w0 := wr.drew) hb.size oy (Below.refl _ _) ox bx)) (below_seq (below_seq hb.drew bY) bx)
end Go.Proofs.Ytibmnpkmbhjniaa
