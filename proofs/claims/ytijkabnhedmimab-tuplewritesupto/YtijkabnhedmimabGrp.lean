/- The groups of a text, put behind a row. -/
import Derived.Test.YtijkabnhedmimabApp
import Derived.WalkMore
namespace Go.Proofs.Ytijkabnhedmimab
set_option linter.unusedVariables false
set_option linter.unusedSimpArgs false
open Go.RowKit
def szOf : Value → Nat
  | .string s => s.size
  | _ => 0
attribute [local go_sem ↓] Go.wp_at_zero Go.wp_at_succ
attribute [local go_sem ↓] sl9 ix9
set_option maxHeartbeats 2000000 in
theorem appendGroups_any {base : Nat} {w : World} {v : Value} {L : List UInt8} (t : List UInt8) (hO : Ob base w v L) (hn : L.length + 9 * ngr t.length ≤ 200000000000000) :
    Calls Try.prog 27 #[v, str t] w fun e w' => ∃ v', e = .returned v' ∧ Ob base w' v' (L ++ grp t) ∧ Below base w w' := by
  go_enter Try.func27, Try.ntmps27
  go_wp2_with fail
  go_step3
  go_wp2_with fail
  go_step3
  go_wp2_with fail
  go_loopw [0, 1] (fun b x wr => ∃ (D r : List UInt8), x = str r ∧ Ob base wr b D ∧ L ++ grp t = D ++ grp r ∧ Below base w wr) (fun _ x _ => szOf x)
  case atStart => exact ⟨L, t, rfl, hO, rfl, Below.refl _ _⟩
  case round =>
    obtain ⟨D, r, rfl, hO', he, hb⟩ := hrel
    have hbd : D.length + 9 * ngr r.length ≤ 200000000000000 := by
      have := congrArg List.length he
      rw [List.length_append, List.length_append, grp_length, grp_length] at this
      omega
    have hr1 : r.length ≤ 8 * ngr r.length := by unfold ngr; split <;> omega
    have HE : Hid (L ++ grp t = D ++ grp r) := ⟨he⟩
    clear he hn
    by_cases h8 : r.length ≤ 8
    · have hs3 : ∀ w, (slS (.string ⟨#[0, 0, 0, 0, 0, 0, 0, 0]⟩) (some (.int .i64 (r.length : Int))) none none).run Try.prog w = .ok (str (List.replicate (8 - r.length) 0)) w := by
        intro w
        have := run_lo [0, 0, 0, 0, 0, 0, 0, 0] r.length h8 (by decide) w
        rw [show ([0, 0, 0, 0, 0, 0, 0, 0] : List UInt8) = List.replicate 8 0 from rfl, List.drop_replicate] at this
        exact this
      have hG : Hid (grp r = r ++ List.replicate (8 - r.length) 0 ++ [UInt8.ofNat r.length]) := ⟨grp_short h8⟩
      have hC : Hid ((r.length : Int) = ((UInt8.ofNat r.length).toNat : Int)) := ⟨by simp; omega⟩
      have hw : (r.length : Int) % 256 = (r.length : Int) := by omega
      have b1 : D.length + r.length ≤ 200000000000000 := by omega
      have hn1 : 1 ≤ ngr r.length := by unfold ngr; split <;> omega
      have b2 : (D ++ r).length + (List.replicate (8 - r.length) (0 : UInt8)).length ≤ 200000000000000 := by
        rw [List.length_append, List.length_replicate]; omega
      have b3 : (D ++ r ++ List.replicate (8 - r.length) (0 : UInt8)).length ≤ 200000000000000 := by rw [List.length_append]; exact b2
      have hs1 := run_hi r r.length (Nat.le_refl _) (by omega)
      rw [List.take_length] at hs1
      have hs2 := run_lo r r.length (Nat.le_refl _) (by omega)
      rw [List.drop_length] at hs2
      have HB : ∀ v3 w3, Ob base w3 v3 (D ++ r ++ List.replicate (8 - r.length) 0 ++ [UInt8.ofNat r.length]) → Ob base w3 v3 (L ++ grp t) := by
        intro v3 w3 h
        rw [HE.out, hG.out, ← List.append_assoc, ← List.append_assoc]
        exact h
      clear hG HE hbd hr1
      generalize List.replicate (8 - r.length) (0 : UInt8) = Z at *
      by_cases h7 : r.length = 8
      · rw [h7] at hs1 hs2 hs3
        have g1 : ∀ w, (slS (str r) none (some (.int .i64 8)) none).run Try.prog w = .ok (str r) w := hs1
        have g2 : ∀ w, (slS (str r) (some (.int .i64 8)) none none).run Try.prog w = .ok (str []) w := hs2
        have g3 : ∀ w, (slS (.string ⟨#[0, 0, 0, 0, 0, 0, 0, 0]⟩) (some (.int .i64 8)) none none).run Try.prog w = .ok (str Z) w := hs3
        rw [h7] at hw
        have hC8 : Hid ((8 : Int) = ((UInt8.ofNat r.length).toNat : Int)) := ⟨by rw [h7]; decide⟩
        have hi : 8 ≤ (r.length : Int) := by omega
        clear hs1 hs2 hs3 hC
        go_wp2_with (first
          | (refine app_str r hO' b1 rfl _ _ rfl rfl rfl ?_; intro v1 w1 hO1 hb1)
          | (refine app_str Z hO1 b2 rfl _ _ rfl rfl rfl ?_; intro v2 w2 hO2 hb2)
          | (refine app_byte _ hO2 b3 hC8.out rfl _ _ rfl rfl rfl ?_; intro v3 w3 hO3 hb3))
        try rw [Exit.noGoto_ret]
        go_ret
        exact ⟨_, rfl, HB _ _ hO3, ((hb.trans hb1).trans hb2).trans hb3⟩
      · have hi : ¬ 8 ≤ (r.length : Int) := by omega
        go_wp2_with (first
          | (refine app_str r hO' b1 rfl _ _ rfl rfl rfl ?_; intro v1 w1 hO1 hb1)
          | (refine app_str Z hO1 b2 rfl _ _ rfl rfl rfl ?_; intro v2 w2 hO2 hb2)
          | (refine app_byte _ hO2 b3 hC.out rfl _ _ rfl rfl rfl ?_; intro v3 w3 hO3 hb3))
        try rw [Exit.noGoto_ret]
        go_ret
        exact ⟨_, rfl, HB _ _ hO3, ((hb.trans hb1).trans hb2).trans hb3⟩
    · have g1 : ∀ w, (slS (str r) none (some (.int .i64 8)) none).run Try.prog w = .ok (str (r.take 8)) w := run_hi r 8 (by omega) (by omega)
      have g2 : ∀ w, (slS (str r) (some (.int .i64 8)) none none).run Try.prog w = .ok (str (r.drop 8)) w := run_lo r 8 (by omega) (by omega)
      have g3 : ∀ w, (slS (.string ⟨#[0, 0, 0, 0, 0, 0, 0, 0]⟩) (some (.int .i64 8)) none none).run Try.prog w = .ok (str []) w := run_lo [0, 0, 0, 0, 0, 0, 0, 0] 8 (by decide) (by decide)
      have hG : Hid (grp r = r.take 8 ++ 9 :: grp (r.drop 8)) := ⟨grp_long (by omega)⟩
      have hi : 8 ≤ (r.length : Int) := by omega
      have hl8 : (r.take 8).length = 8 := by rw [List.length_take]; omega
      have hd8 : (r.drop 8).length < r.length := by rw [List.length_drop]; omega
      have hde : (r.drop 8).isEmpty = false := by
        cases hq : r.drop 8 with
        | nil => have := congrArg List.length hq; rw [List.length_drop] at this; simp at this; omega
        | cons _ _ => rfl
      have hn1 : 8 + r.length ≤ 8 + 8 * ngr r.length := by omega
      have b1 : D.length + (r.take 8).length ≤ 200000000000000 := by omega
      have b2 : (D ++ r.take 8).length + ([] : List UInt8).length ≤ 200000000000000 := by rw [List.length_append]; simp only [List.length_nil]; omega
      have b3 : (D ++ r.take 8 ++ []).length ≤ 200000000000000 := by rw [List.append_nil, List.length_append]; omega
      have HB : ∀ v3 w3, Ob base w3 v3 (D ++ r.take 8 ++ [] ++ [9]) → Ob base w3 v3 (D ++ r.take 8 ++ [9]) ∧ L ++ grp t = D ++ r.take 8 ++ [9] ++ grp (r.drop 8) := by
        intro v3 w3 h
        rw [List.append_nil] at h
        refine ⟨h, ?_⟩
        rw [HE.out, hG.out]; simp
      clear hG HE hbd hr1 hn1
      generalize r.take 8 = A at *
      generalize r.drop 8 = R at *
      go_wp2_with (first
          | (refine app_str A hO' b1 rfl _ _ rfl rfl rfl ?_; intro v1 w1 hO1 hb1)
          | (refine app_str [] hO1 b2 rfl _ _ rfl rfl rfl ?_; intro v2 w2 hO2 hb2)
          | (refine app_byte 9 hO2 b3 rfl rfl _ _ rfl rfl rfl ?_; intro v3 w3 hO3 hb3))
      obtain ⟨h4, h5⟩ := HB _ _ hO3
      exact ⟨⟨_, R, rfl, h4, h5, ((hb.trans hb1).trans hb2).trans hb3⟩, by simp only [szOf, str_size]; exact hd8⟩
end Go.Proofs.Ytijkabnhedmimab
