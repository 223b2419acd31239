/- The reference: the text whose groups stand ahead; the number of eight bytes. -/
import Derived.Test.YtijkabnhedmimaaRfG
import Derived.RegionCalls
import Derived.Deep.RegionHeld3
namespace Go.Proofs.Ytijkabnhedmimaa
set_option linter.unusedVariables false
set_option linter.unusedSimpArgs false
open Go.RowKit
attribute [local go_sem ↓] Go.wp_at_zero Go.wp_at_succ
attribute [local go_sem ↓] sl9 ix9
set_option maxHeartbeats 1000000 in
theorem refValue_any (b : List UInt8) (w : World) (h8 : 8 ≤ b.length) (hl : b.length ≤ 200000000000000) :
    Calls Try.prog 27 #[str b] w fun e w' => e = .returned (.int .u64 (nval (b.take 8) : Int)) ∧ w' = w := by
  go_enter Try.func27, Try.ntmps27
  go_wp2_with fail
  go_loop [3, 4] (fun n i => ∃ k : Nat, k ≤ 8 ∧ i = .int .i64 (k : Int) ∧ n = .int .u64 (nval (b.take k) : Int)) (fun _ i => 8 - (intOf i).toNat)
  case atStart => exact ⟨0, by omega, rfl, rfl⟩
  case round =>
    obtain ⟨k, hk, rfl, rfl⟩ := hrel
    by_cases hlt : k < 8
    · have hd1 : decide ((k : Int) < 8) = true := decide_eq_true (by omega)
      have g3 := run_ix b k (by omega)
      have HN : Hid (nval (b.take (k + 1)) = nval (b.take k) * 256 + (b.getD k 0).toNat) := ⟨nval_take (by omega)⟩
      have hsm := nval_small (l := b) (k := k) (by omega)
      have hor := or8 _ (b.getD k 0) hsm
      generalize nval (b.take k) = n at *
      generalize b.getD k 0 = c at *
      have hc : c.toNat < 256 := c.toNat_lt
      go_wp2_with fail
      refine ⟨⟨k + 1, by omega, by go_num, ?_⟩, by simp [intOf]; omega⟩
      rw [show (n : Int) * 256 = ((n * 256 : Nat) : Int) by omega, hor, HN.out]
    · obtain rfl : k = 8 := by omega
      have hd1 : decide ((8 : Int) < 8) = false := by decide
      go_wp2_with fail
      go_ret
      exact ⟨rfl, rfl⟩
/-- what the reference's text answers -/
def refTold (b : List UInt8) (v : Value) : Prop := (∃ t r, b = grp t ++ r ∧ v = .tuple #[str t, .int .i64 ((grp t).length : Int), .bool true]) ∨ ((∀ t r, b ≠ grp t ++ r) ∧ ∃ t k, v = .tuple #[str t, .int .i64 ((k : Nat) : Int), .bool false] ∧ k ≤ b.length + 9)
theorem GI.count {b T R : List UInt8} {j : Nat} (h : GI b T R) (hT : T.length = 8 * j) {c : Nat} (hc : (R.getD 8 0).toNat = c) (h8 : c ≤ 8) (h0 : c = 0 → j = 0) {t r : List UInt8} (e : b = grp t ++ r) (hl : 9 ≤ R.length) : t = T ++ (R.take 8).take c ∧ (grp t).length = 9 * j + 9 := by
  obtain ⟨u', h1, h2, h3⟩ := (h.out t r).1 e
  obtain ⟨_, g1, g2⟩ := grp9 h2
  have hlu : u'.length = c := nin_small (by rw [← g1]; exact hc) h8
  have hu : u' = (R.take 8).take c := by
    rw [g2, List.take_of_length_le (show u'.length ≤ 8 by omega), List.take_append_of_le_length (by omega), List.take_of_length_le (by omega)]
  refine ⟨by rw [h1, hu], ?_⟩
  rw [grp_length, h1, List.length_append, hT, hlu]
  unfold ngr
  split
  · omega
  · by_cases hc0 : c = 0
    · have := h0 hc0; omega
    · omega
set_option maxHeartbeats 2000000 in
theorem refText_any (b : List UInt8) (w : World) (hl : b.length ≤ 10000000) :
    Calls Try.prog 26 #[str b] w fun e w' => (∃ v, e = .returned v ∧ refTold b v) ∧ Below w.heap.size w w' := by
  go_enter Try.func26, Try.ntmps26
  go_wp2_with fail
  go_loopw [5, 6] (fun s i wr => ∃ (T : List UInt8) (j : Nat), i = .int .i64 ((9 * j : Nat) : Int) ∧ 9 * j ≤ b.length ∧ s = str T ∧ T.length = 8 * j ∧ GI b T (b.drop (9 * j)) ∧ Below w.heap.size w wr) (fun _ i _ => b.length - (intOf i).toNat)
  case atStart => exact ⟨[], 0, rfl, by omega, rfl, rfl, by simpa using GI.start b, Below.refl _ _⟩
  case round =>
    obtain ⟨T, j, rfl, hj, rfl, hT, hG, HB⟩ := hrel
    have hdl : (b.drop (9 * j)).length = b.length - 9 * j := List.length_drop
    by_cases h9 : 9 * j + 9 ≤ b.length
    · have d1 : decide (((9 * j : Nat) : Int) + 9 ≤ (b.length : Int)) = true := decide_eq_true (by omega)
      have g1 : ∀ w, (ixS (str b) (.int .i64 (((9 * j : Nat) : Int) + 8))).run Try.prog w = .ok (.int .u8 (((b.drop (9 * j)).getD 8 0).toNat : Int)) w := fun w => by
        have := run_ix b (9 * j + 8) (by omega) w
        rw [show ((9 * j + 8 : Nat) : Int) = ((9 * j : Nat) : Int) + 8 by omega] at this
        rw [this, List.getD_eq_getElem?_getD, List.getD_eq_getElem?_getD, List.getElem?_drop]
      obtain ⟨c, hc⟩ : ∃ c, ((b.drop (9 * j)).getD 8 0).toNat = c := ⟨_, rfl⟩
      rw [hc] at g1
      have hc256 : c < 256 := by rw [← hc]; exact UInt8.toNat_lt _
      have m1 : ∀ k, 9 * j + k ≤ b.length → k ≤ 9 → ∀ w, (slS (str b) (some (.int .i64 ((9 * j : Nat) : Int))) (some (.int .i64 (((9 * j : Nat) : Int) + (k : Int)))) none).run Try.prog w = .ok (str ((b.drop (9 * j)).take k)) w := fun k h1 h2 w => by
        have := run_mid b (9 * j) (9 * j + k) (by omega) h1 (by omega) w
        rw [show ((9 * j + k : Nat) : Int) = ((9 * j : Nat) : Int) + (k : Int) by omega, show 9 * j + k - 9 * j = k by omega] at this
        exact this
      have m2 : ∀ w, (slS (str b) none (some (.int .i64 (((9 * j : Nat) : Int) + 9))) none).run Try.prog w = .ok (str (b.take (9 * j + 9))) w := fun w => by
        have := run_hi b (9 * j + 9) h9 (by omega) w
        rw [show ((9 * j + 9 : Nat) : Int) = ((9 * j : Nat) : Int) + 9 by omega] at this
        exact this
      have htk : ∀ k, k ≤ 8 → ((b.drop (9 * j)).take 8).take k = (b.drop (9 * j)).take k := fun k hk => by rw [List.take_take, Nat.min_eq_left hk]
      have hA : Hid (((9 * j : Nat) : Int) = 9 * (j : Int)) := ⟨by omega⟩
      have hT1 : T.length ≤ 10000000 := by omega
      by_cases c9 : c = 9
      · subst c9
        have g1' : ∀ w, (ixS (str b) (.int .i64 (((9 * j : Nat) : Int) + 8))).run Try.prog w = .ok (.int .u8 9) w := g1
        have m8 : ∀ w, (slS (str b) (some (.int .i64 ((9 * j : Nat) : Int))) (some (.int .i64 (((9 * j : Nat) : Int) + 8))) none).run Try.prog w = .ok (str ((b.drop (9 * j)).take 8)) w := m1 8 (by omega) (by omega)
        have hGn : Hid (GI b (T ++ (b.drop (9 * j)).take 8) (b.drop (9 * (j + 1)))) := ⟨by
          have := hG.next (by omega) (UInt8.toNat.inj hc)
          rw [List.drop_drop, show 9 * j + 9 = 9 * (j + 1) by omega] at this
          exact this⟩
        have ht8 : ((b.drop (9 * j)).take 8).length = 8 := by rw [List.length_take]; omega
        have HI : Hid (((9 * j : Nat) : Int) + 9 = ((9 * (j + 1) : Nat) : Int)) := ⟨by omega⟩
        clear g1 m1 m2 htk hc
        generalize (b.drop (9 * j)).take 8 = E at *
        have hat0 : 0 ≤ ((9 * j : Nat) : Int) ∧ ((9 * j : Nat) : Int) ≤ 10000000 := by omega
        generalize ((9 * j : Nat) : Int) = at0 at *
        go_wp2_with fail
        refine ⟨⟨T ++ E, j + 1, ?_, by omega, congrArg Value.string (cat_str _ _), by rw [List.length_append]; omega, hGn.out, HB⟩, ?_⟩
        · rw [HI.out]
        · simp [intOf]; have := hA.out; omega
      · have c9' : ((c : Int) == 9) = false := by rw [beq_eq_false_iff_ne]; omega
        have hn9 : ¬ (b.drop (9 * j)).getD 8 0 = 9 := fun e => c9 (by rw [← hc, e]; rfl)
        by_cases c8 : 9 < c
        · have d2 : decide ((9 : Int) < (c : Int)) = true := decide_eq_true (by omega)
          have HG : Hid (refTold b (.tuple #[str [], .int .i64 0, .bool false])) := ⟨Or.inr ⟨hG.odd hn9 (by omega), [], 0, rfl, by omega⟩⟩
          clear hG hn9 m1 m2 htk hc
          have hat0 : 0 ≤ ((9 * j : Nat) : Int) ∧ ((9 * j : Nat) : Int) ≤ 10000000 := by omega
          generalize ((9 * j : Nat) : Int) = at0 at *
          go_wp2_with fail
          go_ret3
          exact ⟨⟨_, rfl, HG.out⟩, HB⟩
        · have d2 : decide ((9 : Int) < (c : Int)) = false := decide_eq_false (by omega)
          by_cases c0 : c = 0 ∧ 0 < j
          · have HG : Hid (refTold b (.tuple #[str [], .int .i64 0, .bool false])) := ⟨Or.inr ⟨hG.none (by omega) (by intro e; rw [e] at hT; simp at hT; omega), [], 0, rfl, by omega⟩⟩
            have d3 : ((c : Int) == 0) = true := by rw [beq_iff_eq]; omega
            have d4 : decide (0 < ((9 * j : Nat) : Int)) = true := decide_eq_true (by omega)
            clear hG hn9 m1 m2 htk hc c0
            have hat0 : 0 ≤ ((9 * j : Nat) : Int) ∧ ((9 * j : Nat) : Int) ≤ 10000000 := by omega
            generalize ((9 * j : Nat) : Int) = at0 at *
            go_wp2_with fail
            go_ret3
            exact ⟨⟨_, rfl, HG.out⟩, HB⟩
          · have h0 : c = 0 → j = 0 := fun h => by omega
            have hc8 : c ≤ 8 := by omega
            have mc := m1 c (by omega) (by omega)
            rw [← htk c hc8] at mc
            obtain ⟨U, hU⟩ : ∃ U, U = T ++ ((b.drop (9 * j)).take 8).take c := ⟨_, rfl⟩
            have hUl : U.length ≤ 10000008 := by rw [hU, List.length_append, List.length_take]; omega
            have hrg := fun w => refGroups_any U w (by omega)
            have HG : ∀ v, v = (grp U == b.take (9 * j + 9)) → refTold b (.tuple #[str U, .int .i64 (((9 * j : Nat) : Int) + 9), .bool v]) := by
              intro v hv
              by_cases e : grp U = b.take (9 * j + 9)
              · rw [e, beq_self_eq_true] at hv
                subst hv
                refine Or.inl ⟨U, b.drop (9 * j + 9), by rw [e, List.take_append_drop], ?_⟩
                rw [e, List.length_take, show min (9 * j + 9) b.length = 9 * j + 9 by omega]
                congr 3
              · rw [beq_eq_false_iff_ne.2 e] at hv
                subst hv
                refine Or.inr ⟨fun t r q => e ?_, U, 9 * j + 9, by congr 3, by omega⟩
                obtain ⟨q1, q2⟩ := hG.count hT hc hc8 h0 q (by omega)
                rw [hU, ← q1]
                rw [q, ← q2]
                simp
            have hcat : Hid ((⟨T.toArray⟩ ++ ⟨(((b.drop (9 * j)).take 8).take c).toArray⟩ : ByteArray) = ⟨U.toArray⟩) := ⟨by rw [hU, cat_str]⟩
            have d34 : ((c : Int) == 0) = false ∨ (((c : Int) == 0) = true ∧ decide (0 < ((9 * j : Nat) : Int)) = false) := by
              by_cases h : c = 0
              · exact Or.inr ⟨by rw [beq_iff_eq]; omega, decide_eq_false (by have := h0 h; omega)⟩
              · exact Or.inl (by rw [beq_eq_false_iff_ne]; omega)
            have hul : (((b.drop (9 * j)).take 8).take c).length ≤ 8 := by rw [List.length_take]; omega
            clear hU hG hn9 m1 htk hc c0 h0
            generalize ((b.drop (9 * j)).take 8).take c = E at *
            generalize b.take (9 * j + 9) = F at *
            have hat0 : 0 ≤ ((9 * j : Nat) : Int) ∧ ((9 * j : Nat) : Int) ≤ 10000000 := by omega
            generalize ((9 * j : Nat) : Int) = at0 at *
            rcases d34 with d3 | ⟨d3, d4⟩
            · go_wp2_with fail
              rw [hcat.out]
              have hwrp : IntKind.i64.wrap (at0 + 9) = at0 + 9 := by rw [IntKind.wrap_i64]; omega
              go_region_held3 (fun w' => Below w.heap.size w w') (first | exact HB.drew | exact below_seq (by assumption) bq) ((go_at_call 37; refine Calls.mono (hrg _) ?_; rintro e w' ⟨rfl, bq⟩))
              rename_i hH
              go_wp2_with fail
              go_ret3
              exact ⟨⟨_, rfl, HG _ rfl⟩, hH⟩
            · go_wp2_with fail
              rw [hcat.out]
              have hwrp : IntKind.i64.wrap (at0 + 9) = at0 + 9 := by rw [IntKind.wrap_i64]; omega
              go_region_held3 (fun w' => Below w.heap.size w w') (first | exact HB.drew | exact below_seq (by assumption) bq) ((go_at_call 37; refine Calls.mono (hrg _) ?_; rintro e w' ⟨rfl, bq⟩))
              rename_i hH
              go_wp2_with fail
              go_ret3
              exact ⟨⟨_, rfl, HG _ rfl⟩, hH⟩
    · have d1 : decide (((9 * j : Nat) : Int) + 9 ≤ (b.length : Int)) = false := decide_eq_false (by omega)
      have HG : Hid (refTold b (.tuple #[str [], .int .i64 0, .bool false])) := ⟨Or.inr ⟨hG.short (by omega), [], 0, rfl, by omega⟩⟩
      clear hG
      have hat0 : 0 ≤ ((9 * j : Nat) : Int) ∧ ((9 * j : Nat) : Int) ≤ 10000000 := by omega
      generalize ((9 * j : Nat) : Int) = at0 at *
      go_wp2_with fail
      go_ret3
      exact ⟨⟨_, rfl, HG.out⟩, HB⟩
end Go.Proofs.Ytijkabnhedmimaa
