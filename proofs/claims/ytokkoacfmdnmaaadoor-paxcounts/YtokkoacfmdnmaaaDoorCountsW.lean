/- PaxCounts: the walk. -/
import Derived.Test.YtokkoacfmdnmaaaDoorCnt
namespace Go.Proofs.YtokkoacfmdnmaaaDoor
set_option linter.unusedVariables false
set_option linter.unusedSimpArgs false
open Go.RowKit
namespace paxCounts
theorem and_small (x : Int) : ∃ c : Nat, bits BinOp.and IntKind.i64 x 16383 = (c : Int) ∧ c ≤ 16383 := by
  have h : (BitVec.ofInt 64 x).toNat &&& 16383 ≤ 16383 := Nat.and_le_right
  refine ⟨(BitVec.ofInt 64 x).toNat &&& 16383, ?_, h⟩
  show IntKind.i64.wrap ((BitVec.ofInt 64 x &&& BitVec.ofInt 64 16383).toNat : Int) = _
  rw [BitVec.toNat_and, show (BitVec.ofInt 64 16383).toNat = 16383 from rfl, IntKind.wrap_i64]
  omega
attribute [local go_sem ↓] Go.wp_at_zero Go.wp_at_succ
set_option maxHeartbeats 1000000 in
theorem walk (k : ByteArray) (sz : Int) (hk : k.size ≤ 140737488351232) (w : World) (hT : TB w) :
    Calls Tryd.prog 5 #[.string k, .int .i64 sz] w fun e w' => e = .returned (.bool true) ∧ Below w.heap.size w w' := by
  obtain ⟨c, hc, hc2⟩ := and_small sz
  have hr := fun w => right_any k (by omega) w
  go_enter Tryd.func5, Tryd.ntmps5
  go_wp2_with fail
  refine (head_any _ hT).mono ?_
  rintro e w0 ⟨rfl, b0⟩
  dsimp only
  obtain ⟨M, hM1, hM2⟩ := zeros c hc2 w0
  obtain ⟨v, hv⟩ : ∃ v : ByteArray, v = ⟨(List.replicate c (0 : UInt8)).toArray⟩ := ⟨_, rfl⟩
  have hvs : v.size = c := by rw [hv]; simp [ByteArray.size]
  rw [← hv] at hM2
  clear hv
  have b1 := b0.alloc b0.size (.cells M 5)
  obtain ⟨W1, hW1⟩ : ∃ W1, W1 = w0.alloc (.cells M 5) := ⟨_, rfl⟩
  rw [← hW1] at hM1 hM2 b1
  have hT1 := hT.below b1
  clear hW1
  have hwr := fun w ht => write_any k v (by omega) (by omega) w ht
  go_wp2_with fail
  refine (hwr _ hT1).mono ?_
  rintro e w2 ⟨rfl, b2⟩
  replace b2 := below_seq b1 b2
  clear hwr hM1 hM2 b0 b1
  dsimp only
  have hK : key k.data.toList = true ∨ key k.data.toList = false := by cases key k.data.toList <;> simp
  rcases hK with h1 | h1
  · rw [h1] at hr
    by_cases h2 : 1048576 < LEN (nn k.data.toList v.data.toList)
    · have e1 : wrote k.data.toList v.data.toList = [] := by unfold wrote; rw [if_neg (by rw [h1]; decide), if_pos h2]
      have e2 : werr k.data.toList v.data.toList = 3 := by unfold werr; rw [if_neg (by rw [h1]; decide), if_pos h2]
      have e3 := long_of_LEN h2
      rw [nn_size] at e3
      rw [e1, e2]
      have d1 : decide ((1048576 : Int) < (k.size : Int) + (c : Int) + 10) = true := decide_eq_true (by omega)
      clear e1 e2 h2 h1
      go_wp2_with fail
      refine (hr _).mono ?_
      rintro e w3 ⟨rfl, rfl⟩
      dsimp only
      go_wp2_with fail
      go_ret
      exact ⟨rfl, b2⟩
    · have e1 : wrote k.data.toList v.data.toList = recd k.data.toList v.data.toList := by unfold wrote; rw [if_neg (by rw [h1]; decide), if_neg h2]
      have e2 : werr k.data.toList v.data.toList = 0 := by unfold werr; rw [if_neg (by rw [h1]; decide), if_neg h2]
      rw [e1, e2]
      clear e1 e2
      unfold str
      have hnn : nn k.data.toList v.data.toList = k.size + c + 3 := by rw [nn_size, hvs]
      obtain ⟨d, hd⟩ : ∃ d, d = dig (nn k.data.toList v.data.toList) := ⟨_, rfl⟩
      obtain ⟨L, hL⟩ : ∃ L, L = LEN (nn k.data.toList v.data.toList) := ⟨_, rfl⟩
      have hLd : L = k.size + c + 3 + d := by rw [hL, hd, ← hnn]; rfl
      have hd7 : 1 ≤ d ∧ d ≤ 7 := by rw [hd]; exact ⟨dig_pos _, dig_seven (by omega)⟩
      have hLn : Lib.nDigits L = d := by rw [hL, hd]; exact nDigits_LEN _
      obtain ⟨r, hr0⟩ : ∃ r : ByteArray, r = ⟨(recd k.data.toList v.data.toList).toArray⟩ := ⟨_, rfl⟩
      have hrs : r.size = L := by rw [hr0, hL, ← recd_length]; rfl
      have ht : ((⟨#[32]⟩ : ByteArray) ++ k ++ ⟨#[61]⟩ ++ v ++ ⟨#[10]⟩).data.toList = tail k.data.toList v.data.toList := by
        simp only [cat_any]; simp [tail]
      obtain ⟨q1, hq1⟩ : ∃ q : ByteArray, q = ⟨(Lib.decDigits L).toArray⟩ := ⟨_, rfl⟩
      have hq : q1 ++ ((⟨#[32]⟩ : ByteArray) ++ k ++ ⟨#[61]⟩ ++ v ++ ⟨#[10]⟩) = r := by
        apply ba_inj
        rw [cat_any, hr0, hq1]
        show Lib.decDigits L ++ _ = recd _ _
        rw [ht, hL]; rfl
      have hq1s : q1.size ≤ 19 := by
        have h5 : q1.size = (Lib.decDigits L).length := by rw [hq1]; rfl
        rw [h5, Lib.decDigits_length, hLn]; omega
      have hD1 : ∀ w, Calls Tryd.prog 12 #[.int .i64 (L : Int)] w fun e w' => e = .returned (.string q1) ∧ Below w.heap.size w w' := fun w => by
        have := dec_any (L + 1) L (by omega) (by omega) w
        unfold str at this; rw [← hq1] at this; exact this
      have hD2 : ∀ w, Calls Tryd.prog 13 #[.int .i64 (L : Int)] w fun e w' => e = .returned (.int .i64 (d : Int)) ∧ w' = w := fun w => by
        have := digits_any L (by omega) (by omega) w
        rw [hLn] at this; exact this
      obtain ⟨x1, hx1⟩ : ∃ x, x = Lib.nDigits (k.size + c + 3 + d - 1) := ⟨_, rfl⟩
      have hD3 : ∀ w, Calls Tryd.prog 13 #[.int .i64 ((k.size : Int) + (c : Int) + 3 + (d : Int) - 1)] w fun e w' => e = .returned (.int .i64 (x1 : Int)) ∧ w' = w := fun w => by
        have := digits_any (k.size + c + 3 + d - 1) (by omega) (by omega) w
        rw [← hx1] at this
        rwa [show ((k.size + c + 3 + d - 1 : Nat) : Int) = (k.size : Int) + (c : Int) + 3 + (d : Int) - 1 by omega] at this
      have hx1n : 1 < d → ¬ x1 = d - 1 := fun h => by
        have := less_not (nn k.data.toList v.data.toList) (by omega)
        rw [← hd, hnn, ← hx1] at this
        exact this
      obtain ⟨x2, hx2⟩ : ∃ x, x = Lib.nDigits (k.size + c + 3 + d + 1) := ⟨_, rfl⟩
      have hD4 : ∀ w, Calls Tryd.prog 13 #[.int .i64 ((k.size : Int) + (c : Int) + 3 + (d : Int) + 1)] w fun e w' => e = .returned (.int .i64 (x2 : Int)) ∧ w' = w := fun w => by
        have := digits_any (k.size + c + 3 + d + 1) (by omega) (by omega) w
        rw [← hx2] at this
        rwa [show ((k.size + c + 3 + d + 1 : Nat) : Int) = (k.size : Int) + (c : Int) + 3 + (d : Int) + 1 by omega] at this
      obtain ⟨q2, hq2⟩ : ∃ q : ByteArray, q = ⟨(Lib.decDigits (k.size + c + 3 + d + 1)).toArray⟩ := ⟨_, rfl⟩
      have hD5 : ∀ w, Calls Tryd.prog 12 #[.int .i64 ((k.size : Int) + (c : Int) + 3 + (d : Int) + 1)] w fun e w' => e = .returned (.string q2) ∧ Below w.heap.size w w' := fun w => by
        have := dec_any (k.size + c + 3 + d + 1 + 1) (k.size + c + 3 + d + 1) (by omega) (by omega) w
        unfold str at this
        rw [← hq2] at this
        rwa [show ((k.size + c + 3 + d + 1 : Nat) : Int) = (k.size : Int) + (c : Int) + 3 + (d : Int) + 1 by omega] at this
      have hq2s : q2.size ≤ 19 := by
        have h5 : q2.size = (Lib.decDigits (k.size + c + 3 + d + 1)).length := by rw [hq2]; rfl
        rw [h5, Lib.decDigits_length]; exact nDigits_int (by omega)
      have hRd : x2 = d + 1 → ∀ w, TB w → Calls Tryd.prog 9 #[.string (q2 ++ ((⟨#[32]⟩ : ByteArray) ++ k ++ ⟨#[61]⟩ ++ v ++ ⟨#[10]⟩)), .int .i64 0] w fun e w' => ∃ (a b : ByteArray) (n : Int), e = .returned (.tuple #[.string a, .string b, .int .i64 n, .int .i64 4]) ∧ Below w.heap.size w w' := fun hx w hT => by
        have hsz : (q2 ++ ((⟨#[32]⟩ : ByteArray) ++ k ++ ⟨#[61]⟩ ++ v ++ ⟨#[10]⟩)).size = q2.size + (tail k.data.toList v.data.toList).length := by
          rw [ByteArray.size_append, ← ht, Array.length_toList]; rfl
        have hlist : (q2 ++ ((⟨#[32]⟩ : ByteArray) ++ k ++ ⟨#[61]⟩ ++ v ++ ⟨#[10]⟩)).data.toList = Lib.decDigits (nn k.data.toList v.data.toList + dig (nn k.data.toList v.data.toList) + 1) ++ tail k.data.toList v.data.toList := by
          rw [cat_any]
          show q2.data.toList ++ _ = _
          rw [ht, hq2, ← hd, hnn]
        refine (read_any _ 0 (by rw [hsz, tail_length, hnn]; omega) (by decide) w hT).mono ?_
        rintro e w' ⟨a, b, n, er, rfl, hR, hb⟩
        rw [hlist] at hR
        have hno := other_not h1 (by rw [← hd, hnn, ← hx2]; exact hx)
        rcases hR.at' (by decide) (by rw [List.length_append, tail_length, hnn]; omega) with ⟨_, r, _⟩ | ⟨rfl, _⟩
        · exact absurd r (hno _ _)
        · exact ⟨a, b, n, rfl, hb⟩
      rw [← hr0]
      have HLd : Hid (L = k.size + c + 3 + d) := ⟨hLd⟩
      have e5 : (L : Int) - ((k.size : Int) + (c : Int) + 3) = (d : Int) := by omega
      have hLL : L ≤ 1048576 := by omega
      clear hL hd hnn hLn hr0 ht hq1 hx1 hx2 hq2 hLd h1 h2
      go_wp2_with fail
      refine (hD1 _).mono ?_
      rintro e w3 ⟨rfl, b3⟩
      replace b3 := below_seq b2 b3
      dsimp only
      clear hD1 hr b2 e5
      go_wp2_with fail
      refine (hD2 _).mono ?_
      rintro e w4 ⟨rfl, rfl⟩
      dsimp only
      clear hD2
      have hlast : Hid (x2 = d + 1 ∨ ¬ x2 = d + 1) := ⟨by omega⟩
      by_cases h2 : 1 < d
      · have d2 : decide ((1 : Int) < (d : Int)) = true := decide_eq_true (by omega)
        have d3 : ((x1 : Int) == (d : Int) - 1) = false := beq_eq_false_iff_ne.2 (by have := hx1n h2; omega)
        clear hx1n
        go_wp2_with fail
        refine (hD3 _).mono ?_
        rintro e w5 ⟨rfl, rfl⟩
        dsimp only
        clear hD3
        go_wp2_with fail
        refine (hD4 _).mono ?_
        rintro e w6 ⟨rfl, rfl⟩
        dsimp only
        clear hD4
        by_cases h3 : x2 = d + 1
        · have hX := hRd h3
          have d4 : ((x2 : Int) == (d : Int) + 1) = true := by rw [h3]; simp
          clear hRd h3
          go_wp2_with fail
          refine (hD5 _).mono ?_
          rintro e w7 ⟨rfl, b7⟩
          replace b7 := below_seq b3 b7
          dsimp only
          go_wp2_with fail
          refine (hX _ (hT.below b7)).mono ?_
          rintro e w8 ⟨a, b, n, rfl, b8⟩
          replace b8 := below_seq b7 b8
          dsimp only
          clear hX
          go_wp2_with fail
          go_ret
          exact ⟨rfl, b8⟩
        · have d4 : ((x2 : Int) == (d : Int) + 1) = false := beq_eq_false_iff_ne.2 (by omega)
          clear hRd h3
          go_wp2_with fail
          go_ret
          exact ⟨rfl, b3⟩
      · have d2 : decide ((1 : Int) < (d : Int)) = false := decide_eq_false (by omega)
        clear hx1n hD3
        go_wp2_with fail
        refine (hD4 _).mono ?_
        rintro e w6 ⟨rfl, rfl⟩
        dsimp only
        clear hD4
        by_cases h3 : x2 = d + 1
        · have hX := hRd h3
          have d4 : ((x2 : Int) == (d : Int) + 1) = true := by rw [h3]; simp
          clear hRd h3
          go_wp2_with fail
          refine (hD5 _).mono ?_
          rintro e w7 ⟨rfl, b7⟩
          replace b7 := below_seq b3 b7
          dsimp only
          go_wp2_with fail
          refine (hX _ (hT.below b7)).mono ?_
          rintro e w8 ⟨a, b, n, rfl, b8⟩
          replace b8 := below_seq b7 b8
          dsimp only
          clear hX
          go_wp2_with fail
          go_ret
          exact ⟨rfl, b8⟩
        · have d4 : ((x2 : Int) == (d : Int) + 1) = false := beq_eq_false_iff_ne.2 (by omega)
          clear hRd h3
          go_wp2_with fail
          go_ret
          exact ⟨rfl, b3⟩
  · rw [h1] at hr
    have e1 : wrote k.data.toList v.data.toList = [] := by unfold wrote; rw [if_pos h1]
    have e2 : werr k.data.toList v.data.toList = 1 := by unfold werr; rw [if_pos h1]
    rw [e1, e2]
    clear e1 e2 h1
    go_wp2_with fail
    refine (hr _).mono ?_
    rintro e w3 ⟨rfl, rfl⟩
    dsimp only
    go_wp2_with fail
    go_ret
    exact ⟨rfl, b2⟩
end paxCounts
end Go.Proofs.YtokkoacfmdnmaaaDoor
