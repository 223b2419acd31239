/- readGroups: the text whose groups stand ahead. -/
import Derived.Test.YtijkabnhedmimabLim
import Derived.Test.YtijkabnhedmimabGMath
namespace Go.Proofs.Ytijkabnhedmimab
set_option linter.unusedVariables false
set_option linter.unusedSimpArgs false
open Go.RowKit
attribute [local go_sem ↓] Go.wp_at_zero Go.wp_at_succ
attribute [local go_sem ↓] sl9 ix9
theorem below_drewN {B : Nat} {a w : World} (h : Below B a w) (n : Nat) : Below B a (w.drewN n) := ⟨h.os, h.tape, h.output, h.size, h.block⟩
theorem Ob.slice {base : Nat} {w : World} {v : Value} {L : List UInt8} (h : Ob base w v L) : ∃ a cap, v = .slice a L.length cap := by
  rcases h.own.2 with ⟨rfl, h0⟩ | ⟨g, cap, cur, rfl, _⟩
  · exact ⟨none, 0, by rw [h0]⟩
  · exact ⟨_, _, rfl⟩
/-- what readGroups answers -/
def grpTold (b : List UInt8) (v : Value) : Prop := (∃ t r, b = grp t ++ r ∧ v = .tuple #[str t, str r, .bool true]) ∨ ((∀ t r, b ≠ grp t ++ r) ∧ v = .tuple #[str [], str [], .bool false])
set_option maxHeartbeats 2000000 in
theorem readGroups_any (b : List UInt8) (w : World) (hl : b.length ≤ 200000000000000) :
    Calls Try.prog 34 #[str b] w fun e w' => (∃ v, e = .returned v ∧ grpTold b v) ∧ Below w.heap.size w w' := by
  go_enter Try.func34, Try.ntmps34
  go_wp2_with fail
  go_step3
  go_wp2_with fail
  go_step3
  go_wp2_with fail
  go_loopw [0, 5] (fun x t wr => ∃ (R T : List UInt8), x = str R ∧ Ob w.heap.size wr t T ∧ GI b T R ∧ T.length + R.length ≤ 200000000000000 ∧ Below w.heap.size w wr) (fun x _ _ => szOf x)
  case atStart => exact ⟨b, [], rfl, Ob.nil _ _ (Nat.le_refl _), GI.start b, by simpa using hl, Below.refl _ _⟩
  case round =>
    obtain ⟨R, T, rfl, hO, hG, hlen, hb⟩ := hrel
    by_cases h8 : R.length ≤ 8
    · have HG : Hid (grpTold b (.tuple #[str [], str [], .bool false])) := ⟨Or.inr ⟨hG.short h8, rfl⟩⟩
      have hd : decide ((R.length : Int) ≤ 8) = true := decide_eq_true (by omega)
      go_wp2_with fail
      try rw [Exit.noGoto_ret]
      go_ret3
      exact ⟨⟨_, rfl, HG.out⟩, hb⟩
    · have hd : decide ((R.length : Int) ≤ 8) = false := decide_eq_false (by omega)
      have g1 : ∀ w, (slS (str R) none (some (.int .i64 8)) none).run Try.prog w = .ok (str (R.take 8)) w := run_hi R 8 (by omega) (by omega)
      have g2 : ∀ w, (slS (str R) (some (.int .i64 9)) none none).run Try.prog w = .ok (str (R.drop 9)) w := run_lo R 9 (by omega) (by omega)
      have g3 : ∀ w, (ixS (str R) (.int .i64 8)).run Try.prog w = .ok (.int .u8 ((R.getD 8 0).toNat : Int)) w := run_ix R 8 (by omega)
      have hl8 : (R.take 8).length = 8 := by rw [List.length_take]; omega
      have hl9 : (R.drop 9).length < R.length := by rw [List.length_drop]; omega
      have b1 : T.length + (R.take 8).length ≤ 200000000000000 := by omega
      by_cases h9 : R.getD 8 0 = 9
      · have HG : Hid (GI b (T ++ R.take 8) (R.drop 9)) := ⟨hG.next (by omega) h9⟩
        have hle : (T ++ R.take 8).length + (R.drop 9).length ≤ 200000000000000 := by rw [List.length_append, List.length_drop]; omega
        rw [h9] at g3
        have g3' : ∀ w, (ixS (str R) (.int .i64 8)).run Try.prog w = .ok (.int .u8 9) w := g3
        clear g3 h9
        generalize R.take 8 = A at *
        generalize R.drop 9 = D at *
        go_wp2_with fail
        go_quiet (fail)
        have hO' := hO.drewN nq
        have hb' := below_drewN hb nq
        generalize wr.drewN nq = wr at *
        go_wp2_with (refine app_str A hO' b1 rfl _ _ rfl rfl rfl ?_; intro v1 w1 hO1 hb1)
        exact ⟨⟨D, T ++ A, rfl, hO1, HG.out, hle, hb'.trans hb1⟩, by simp only [szOf, str_size]; exact hl9⟩
      · obtain ⟨c, hc⟩ : ∃ c, (R.getD 8 0).toNat = c := ⟨_, rfl⟩
        have hc9 : ((c : Int) == 9) = false := by
          rw [beq_eq_false_iff_ne]
          intro e
          exact h9 (UInt8.toNat.inj (show _ = (9 : UInt8).toNat from by rw [hc, show (9 : UInt8).toNat = 9 from rfl]; omega))
        have hc8 : 8 < c → Hid (grpTold b (.tuple #[str [], str [], .bool false])) := fun h => ⟨Or.inr ⟨hG.odd h9 (by omega), rfl⟩⟩
        have hcu : c ≤ 8 → (R.take 8).drop c ≠ List.replicate (8 - c) 0 → Hid (grpTold b (.tuple #[str [], str [], .bool false])) := fun h1 h2 => ⟨Or.inr ⟨hG.unfilled hc h1 h2, rfl⟩⟩
        have hc0 : c = 0 → T ≠ [] → Hid (grpTold b (.tuple #[str [], str [], .bool false])) := fun h1 h2 => ⟨Or.inr ⟨hG.none (by omega) h2, rfl⟩⟩
        have hcl : c ≤ 8 → (R.take 8).drop c = List.replicate (8 - c) 0 → (c = 0 → T = []) → Hid (grpTold b (.tuple #[str (T ++ (R.take 8).take c), str (R.drop 9), .bool true])) := fun h1 h2 h3 => ⟨Or.inl ⟨_, _, hG.last (by omega) hc h1 h2 h3, rfl⟩⟩
        rw [hc] at g3
        have h256 : c < 256 := by rw [← hc]; exact UInt8.toNat_lt _
        clear hc h9
        generalize R.take 8 = A at *
        generalize R.drop 9 = D at *
        obtain ⟨ad, cap, rfl⟩ := hO.slice
        by_cases h8c : c ≤ 8
        · have d8 : decide ((8 : Int) < (c : Int)) = false := decide_eq_false (by omega)
          have g4 : ∀ w, (slS (str A) (some (.int .i64 (c : Int))) none none).run Try.prog w = .ok (str (A.drop c)) w := run_lo A c (by omega) (by omega)
          have g6 : ∀ w, (slS (str A) none (some (.int .i64 (c : Int))) none).run Try.prog w = .ok (str (A.take c)) w := run_hi A c (by omega) (by omega)
          have g5 : ∀ w, (slS (.string ⟨#[0, 0, 0, 0, 0, 0, 0, 0]⟩) (some (.int .i64 (c : Int))) none none).run Try.prog w = .ok (str (List.replicate (8 - c) 0)) w := by
            intro w
            have := run_lo [0, 0, 0, 0, 0, 0, 0, 0] c h8c (by decide) w
            rw [show ([0, 0, 0, 0, 0, 0, 0, 0] : List UInt8) = List.replicate 8 0 from rfl, List.drop_replicate] at this
            exact this
          have b2 : T.length + (A.take c).length ≤ 200000000000000 := by rw [List.length_take]; omega
          have hcl' := hcl h8c
          have hcu' := hcu h8c
          generalize A.take c = C at *
          clear hcl hcu hc8
          generalize A.drop c = E at *
          generalize List.replicate (8 - c) (0 : UInt8) = Z at *
          by_cases hEZ : E = Z
          · subst hEZ
            by_cases hc1 : c = 0
            · have hc1' : ((c : Int) == 0) = true := by rw [beq_iff_eq]; omega
              by_cases hT : T = []
              · have HG := hcl' rfl (fun _ => hT)
                subst hT
                clear hcl' hcu' hc0 hc1
                go_wp2_with fail
                go_quiet (fail)
                replace hO := hO.drewN nq
                replace hb := below_drewN hb nq
                generalize wr.drewN nq = wr at *
                go_wp2_with fail
                go_quiet (fail)
                replace hO := hO.drewN nq
                replace hb := below_drewN hb nq
                generalize wr.drewN nq = wr at *
                go_wp2_with (refine app_str C hO b2 rfl _ _ rfl rfl rfl ?_; intro v1 w1 hO1 hb1; have hcv := conv_own hO1)
                try rw [Exit.noGoto_ret]
                go_ret3
                exact ⟨⟨_, rfl, HG.out⟩, hb.trans hb1⟩
              · have HG := hc0 hc1 hT
                have hTl : 0 < T.length := List.length_pos_iff.2 hT
                clear hcl' hcu' hc0 hc1
                go_wp2_with fail
                go_quiet (fail)
                replace hO := hO.drewN nq
                replace hb := below_drewN hb nq
                generalize wr.drewN nq = wr at *
                go_wp2_with fail
                go_quiet (fail)
                replace hO := hO.drewN nq
                replace hb := below_drewN hb nq
                generalize wr.drewN nq = wr at *
                go_wp2_with fail
                try rw [Exit.noGoto_ret]
                go_ret3
                exact ⟨⟨_, rfl, HG.out⟩, hb⟩
            · have HG := hcl' rfl (fun h => absurd h hc1)
              have hc1' : ((c : Int) == 0) = false := by rw [beq_eq_false_iff_ne]; omega
              clear hcl' hcu' hc0
              go_wp2_with fail
              go_quiet (fail)
              replace hO := hO.drewN nq
              replace hb := below_drewN hb nq
              generalize wr.drewN nq = wr at *
              go_wp2_with fail
              go_quiet (fail)
              replace hO := hO.drewN nq
              replace hb := below_drewN hb nq
              generalize wr.drewN nq = wr at *
              go_wp2_with (refine app_str C hO b2 rfl _ _ rfl rfl rfl ?_; intro v1 w1 hO1 hb1; have hcv := conv_own hO1)
              try rw [Exit.noGoto_ret]
              go_ret3
              exact ⟨⟨_, rfl, HG.out⟩, hb.trans hb1⟩
          · have HG := hcu' hEZ
            have hEZ' : (E == Z) = false := by rw [beq_eq_false_iff_ne]; exact hEZ
            clear hcl' hcu' hc0
            go_wp2_with fail
            go_quiet (fail)
            replace hO := hO.drewN nq
            replace hb := below_drewN hb nq
            generalize wr.drewN nq = wr at *
            go_wp2_with fail
            go_quiet (fail)
            replace hO := hO.drewN nq
            replace hb := below_drewN hb nq
            generalize wr.drewN nq = wr at *
            go_wp2_with fail
            try rw [Exit.noGoto_ret]
            go_ret3
            exact ⟨⟨_, rfl, HG.out⟩, hb⟩
        · have HG := hc8 (by omega)
          have d8 : decide ((8 : Int) < (c : Int)) = true := decide_eq_true (by omega)
          clear hc8 hcl hcu hc0
          go_wp2_with fail
          go_quiet (fail)
          replace hO := hO.drewN nq
          replace hb := below_drewN hb nq
          generalize wr.drewN nq = wr at *
          go_wp2_with fail
          go_quiet (fail)
          replace hO := hO.drewN nq
          replace hb := below_drewN hb nq
          generalize wr.drewN nq = wr at *
          go_wp2_with fail
          try rw [Exit.noGoto_ret]
          go_ret3
          exact ⟨⟨_, rfl, HG.out⟩, hb⟩
end Go.Proofs.Ytijkabnhedmimab
