/- PaxOne: the walk. -/
import Derived.Test.YtokkoacfmdnmaaaDoorReadsW
namespace Go.Proofs.YtokkoacfmdnmaaaDoor
set_option linter.unusedVariables false
set_option linter.unusedSimpArgs false
open Go.RowKit
namespace paxOne
attribute [local go_sem ↓] Go.wp_at_zero Go.wp_at_succ
attribute [local go_sem ↓] sl9 ix9
theorem walk (b : ByteArray) (p : Int) (hb : b.size ≤ 140737488351232) (hp : p ≤ 9223372036854775807) (w : World) (hT : TB w) :
    Calls Tryd.prog 3 #[.string b, .int .i64 p] w fun e w' => e = .returned (.bool true) ∧ Below w.heap.size w w' := by
  have c1 := fun w ht => read_any b p (by omega) hp w ht
  have hsm := run_slS b
  obtain ⟨l, hl⟩ : ∃ l, l = b.data.toList := ⟨_, rfl⟩
  have hlen := getD_of hl
  have hxt : ∀ i j, (b.extract i j).data.toList = (l.drop i).take (j - i) := fun i j => by rw [hl]; exact ext_mid b i j
  rw [← hl] at c1
  clear hl
  go_enter Tryd.func3, Tryd.ntmps3
  go_wp2_with fail
  refine (head_any _ hT).mono ?_
  rintro e w0 ⟨rfl, b0⟩
  dsimp only
  go_wp2_with fail
  refine (c1 _ (hT.below b0)).mono ?_
  rintro e w1 ⟨k, v, n, er, rfl, hR, b1⟩
  replace b1 := below_seq b0 b1
  clear c1
  dsimp only
  by_cases h1 : p < 0
  · obtain ⟨e1, e2, rfl, rfl⟩ := hR.arg (Or.inl h1)
    obtain rfl := ba_eq e1
    obtain rfl := ba_eq e2
    have d1 : decide (p < 0) = true := decide_eq_true h1
    have d2 : (p == (b.size : Int)) = false := beq_eq_false_iff_ne.2 (by omega)
    clear hR e1 e2 hsm hxt
    go_wp2_with fail
    go_ret
    exact ⟨rfl, b1⟩
  · have d1 : decide (p < 0) = false := decide_eq_false h1
    by_cases h2 : (b.size : Int) < p
    · obtain ⟨e1, e2, rfl, rfl⟩ := hR.arg (Or.inr (by omega))
      obtain rfl := ba_eq e1
      obtain rfl := ba_eq e2
      have d2 : decide ((b.size : Int) < p) = true := decide_eq_true h2
      have d3 : (p == (b.size : Int)) = false := beq_eq_false_iff_ne.2 (by omega)
      clear hR e1 e2 hsm hxt
      go_wp2_with fail
      go_ret
      exact ⟨rfl, b1⟩
    · have d2 : decide ((b.size : Int) < p) = false := decide_eq_false h2
      obtain ⟨o, rfl⟩ : ∃ o : Nat, p = (o : Int) := ⟨p.toNat, by omega⟩
      by_cases h3 : o = b.size
      · obtain ⟨e1, e2, rfl, rfl⟩ := hR.none (by omega)
        obtain rfl := ba_eq e1
        obtain rfl := ba_eq e2
        have d3 : ((o : Int) == (b.size : Int)) = true := by rw [h3]; exact beq_self_eq_true _
        clear hR e1 e2 hsm hxt h3
        go_wp2_with fail
        go_ret
        exact ⟨rfl, b1⟩
      · have d3 : ((o : Int) == (b.size : Int)) = false := beq_eq_false_iff_ne.2 (by omega)
        rcases hR.at' (by omega) (by omega) with ⟨rfl, hD, hn⟩ | ⟨rfl, e1, e2, rfl, hno⟩
        · rw [Int.toNat_natCast] at hD
          obtain ⟨t, et⟩ := hD.pre
          have hz := recd_length k.data.toList v.data.toList
          have hL : LEN (nn k.data.toList v.data.toList) ≤ b.size - o := by
            have := congrArg List.length et
            rw [List.length_append, hz, List.length_drop] at this
            omega
          have hp := LEN_pos (nn k.data.toList v.data.toList)
          have hnk : nn k.data.toList v.data.toList = k.size + v.size + 3 := nn_size
          have hc := fun w ht => write_any k v (by omega) (by omega) w ht
          rw [hD.wr.1, hD.wr.2] at hc
          unfold str at hc
          have hS : ∀ w, (slS (.string b) (some (.int .i64 (o : Int))) (some (.int .i64 n)) none).run Tryd.prog w = .ok (.string ⟨(recd k.data.toList v.data.toList).toArray⟩) w := fun w => by
            have := hsm o (o + LEN (nn k.data.toList v.data.toList)) (by omega) (by omega) w
            rw [show ((o + LEN (nn k.data.toList v.data.toList) : Nat) : Int) = n by rw [hn]; omega] at this
            rw [this]
            congr 2
            apply ba_inj
            rw [hxt, et, show o + LEN (nn k.data.toList v.data.toList) - o = LEN (nn k.data.toList v.data.toList) by omega, List.take_left' hz]
          generalize (⟨(recd k.data.toList v.data.toList).toArray⟩ : ByteArray) = r at *
          have d4 : decide (n ≤ (o : Int)) = false := decide_eq_false (by omega)
          have d5 : decide ((b.size : Int) < n) = false := decide_eq_false (by omega)
          clear hR hD et hz hL hp hnk hn hsm hxt
          go_wp2_with fail
          refine (hc _ (hT.below b1)).mono ?_
          rintro e w2 ⟨rfl, b2⟩
          replace b2 := below_seq b1 b2
          dsimp only
          go_wp2_with fail
          go_ret
          exact ⟨rfl, b2⟩
        · obtain rfl := ba_eq e1
          obtain rfl := ba_eq e2
          clear hR e1 e2 hsm hxt hno
          go_wp2_with fail
          go_ret
          exact ⟨rfl, b1⟩
end paxOne
end Go.Proofs.YtokkoacfmdnmaaaDoor
