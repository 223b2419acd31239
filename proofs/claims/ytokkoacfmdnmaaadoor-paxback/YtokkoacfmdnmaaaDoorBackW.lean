/- PaxBack: the walk. -/
import Derived.Test.YtokkoacfmdnmaaaDoorReadsW
namespace Go.Proofs.YtokkoacfmdnmaaaDoor
set_option linter.unusedVariables false
set_option linter.unusedSimpArgs false
open Go.RowKit
namespace paxBack
/-- A record is read, whatever stands about it. -/
theorem reads {k v A B : List UInt8} (hk : key k = true) (hs : LEN (nn k v) ≤ 1048576) {x y : List UInt8} {n er : Int} (h : RdAt (A ++ recd k v ++ B) (A.length : Int) x y n er) :
    x = k ∧ y = v ∧ n = (A.length : Int) + (LEN (nn k v) : Nat) ∧ er = 0 := by
  have hR : Rd ((A ++ recd k v ++ B).drop (A.length : Int).toNat) k v := ⟨hk, hs, ⟨B, by rw [Int.toNat_natCast, List.append_assoc, List.drop_left' rfl]⟩⟩
  have hl := recd_length k v
  have hp := LEN_pos (nn k v)
  have e : (A ++ recd k v ++ B).length = A.length + LEN (nn k v) + B.length := by rw [List.length_append, List.length_append, hl]
  rcases h.at' (by omega) (by rw [e]; omega) with ⟨e1, r, e2⟩ | ⟨_, _, _, _, no⟩
  · obtain ⟨e3, e4⟩ := r.uniq hR
    subst e3 e4
    exact ⟨rfl, rfl, e2, e1⟩
  · exact absurd hR (no _ _)
/-- Cut short it is no record. -/
theorem cutShort {k v A : List UInt8} (hk : key k = true) (hs : LEN (nn k v) ≤ 1048576) {c : Nat} (hc : c < LEN (nn k v)) (h0 : 0 < c) {x y : List UInt8} {n er : Int} (h : RdAt (A ++ (recd k v).take c) (A.length : Int) x y n er) :
    x = [] ∧ y = [] ∧ n = 0 ∧ er = 4 := by
  have hl := recd_length k v
  have e : (A ++ (recd k v).take c).length = A.length + c := by rw [List.length_append, List.length_take, hl]; omega
  rcases h.at' (by omega) (by rw [e]; omega) with ⟨e1, r, e2⟩ | ⟨e1, e2, e3, e4, no⟩
  · exfalso
    rw [Int.toNat_natCast, List.drop_left' rfl] at r
    obtain ⟨t, et⟩ := r.pre
    have r2 : Rd (recd k v) x y := ⟨r.kk, r.small, ⟨t ++ (recd k v).drop c, by rw [← List.append_assoc, ← et, List.take_append_drop]⟩⟩
    have r3 : Rd (recd k v) k v := ⟨hk, hs, ⟨[], by simp⟩⟩
    obtain ⟨e3, e4⟩ := r2.uniq r3
    subst e3 e4
    have := congrArg List.length et
    rw [List.length_append, List.length_take, hl] at this
    omega
  · exact ⟨e2, e3, e4, e1⟩
theorem cutNone {A R : List UInt8} {x y : List UInt8} {n er : Int} (h : RdAt (A ++ R.take 0) (A.length : Int) x y n er) : x = [] ∧ y = [] ∧ n = 0 ∧ er = 5 := h.none (by simp)
theorem cut_mod (cut : Int) (L : Nat) (h : 0 < L ∧ L ≤ 1048576) : ∃ c : Nat, wrap64 ((IntKind.u64.wrap cut).tmod (L : Int)) = (c : Int) ∧ c < L := by
  have h0 : 0 ≤ IntKind.u64.wrap cut := by rw [IntKind.wrap_u64]; omega
  have h1 := Int.emod_nonneg (IntKind.u64.wrap cut) (show (L : Int) ≠ 0 by omega)
  have h2 := Int.emod_lt_of_pos (IntKind.u64.wrap cut) (show (0 : Int) < (L : Int) by omega)
  refine ⟨((IntKind.u64.wrap cut) % (L : Int)).toNat, ?_, by omega⟩
  rw [Int.tmod_eq_emod_of_nonneg h0]
  generalize (IntKind.u64.wrap cut) % (L : Int) = x at *
  unfold wrap64
  omega
theorem run_slH (s : ByteArray) (j : Nat) (h2 : j ≤ s.size) (w : World) : (slS (.string s) none (some (.int .i64 (j : Int))) none).run Tryd.prog w = .ok (.string (s.extract 0 j)) w := by
  unfold slS
  rw [run_slice_string_h (P := Tryd.prog) w 9 s Tryd.underlying9 .i64 j (by omega) (by omega)]
  rfl
attribute [local go_sem ↓] Go.wp_at_zero Go.wp_at_succ
attribute [local go_sem ↓] sl9 ix9
theorem walk (k v A B : ByteArray) (cut : Int) (hk : k.size ≤ 140737488351232) (hv : v.size ≤ 140737488351232) (hA : A.size ≤ 140737488351232) (hB : B.size ≤ 140737488351232) (w : World) (hT : TB w) :
    Calls Tryd.prog 4 #[.string k, .string v, .string A, .string B, .int .i64 cut] w fun e w' => e = .returned (.bool true) ∧ Below w.heap.size w w' := by
  have c1 := fun w ht => write_any k v (by omega) (by omega) w ht
  have c2 := fun w => right_any k (by omega) w
  go_enter Tryd.func4, Tryd.ntmps4
  go_wp2_with fail
  refine (head_any _ hT).mono ?_
  rintro e w0 ⟨rfl, b0⟩
  dsimp only
  go_wp2_with fail
  by_cases h1 : key k.data.toList = true
  · rw [h1] at c2
    by_cases h2 : 1048576 < LEN (nn k.data.toList v.data.toList)
    · have e1 : wrote k.data.toList v.data.toList = [] := by unfold wrote; rw [if_neg (by rw [h1]; decide), if_pos h2]
      have e2 : werr k.data.toList v.data.toList = 3 := by unfold werr; rw [if_neg (by rw [h1]; decide), if_pos h2]
      have e3 := long_of_LEN h2
      rw [nn_size] at e3
      rw [e1, e2] at c1
      have d1 : decide ((1048564 : Int) < (k.size : Int) + (v.size : Int)) = true := decide_eq_true (by omega)
      clear h1 h2 e1 e2
      refine (c1 _ (hT.below b0)).mono ?_
      rintro e w1 ⟨rfl, b1⟩
      replace b1 := below_seq b0 b1
      dsimp only
      go_wp2_with fail
      refine (c2 _).mono ?_
      rintro e w2 ⟨rfl, rfl⟩
      dsimp only
      go_wp2_with fail
      go_ret
      exact ⟨rfl, b1⟩
    · obtain ⟨R, hR⟩ : ∃ R, R = recd k.data.toList v.data.toList := ⟨_, rfl⟩
      have e1 : wrote k.data.toList v.data.toList = R := by unfold wrote; rw [if_neg (by rw [h1]; decide), if_neg h2, hR]
      have e2 : werr k.data.toList v.data.toList = 0 := by unfold werr; rw [if_neg (by rw [h1]; decide), if_neg h2]
      rw [e1, e2] at c1
      unfold str at c1
      obtain ⟨L, hL⟩ : ∃ L, L = LEN (nn k.data.toList v.data.toList) := ⟨_, rfl⟩
      have hRl : R.length = L := by rw [hR, hL]; exact recd_length _ _
      obtain ⟨r, hr⟩ : ∃ r : ByteArray, r = ⟨R.toArray⟩ := ⟨_, rfl⟩
      have hrl : r.data.toList = R := by rw [hr]
      have hrs : r.size = L := by rw [← hRl, ← hrl, Array.length_toList]; rfl
      rw [← hr] at c1
      have hL2 : 0 < L ∧ L ≤ 1048576 := by have := LEN_pos (nn k.data.toList v.data.toList); omega
      have c3 : ∀ w, TB w → Calls Tryd.prog 9 #[.string (A ++ r ++ B), .int .i64 (A.size : Int)] w fun e w' => e = .returned (.tuple #[.string k, .string v, .int .i64 ((A.size : Int) + (L : Int)), .int .i64 0]) ∧ Below w.heap.size w w' := fun w ht => by
        refine (read_any (A ++ r ++ B) A.size (by rw [ByteArray.size_append, ByteArray.size_append]; omega) (by omega) w ht).mono ?_
        rintro e w' ⟨x, y, n, er, rfl, hx, hb⟩
        have hl : (A ++ r ++ B).data.toList = A.data.toList ++ recd k.data.toList v.data.toList ++ B.data.toList := by
          rw [cat_any, cat_any, ← hR, ← hrl]
        rw [hl, show (A.size : Int) = (A.data.toList.length : Int) by rw [Array.length_toList]; rfl] at hx
        obtain ⟨x1, x2, x3, x4⟩ := reads h1 (by omega) hx
        obtain rfl := ba_inj x1
        obtain rfl := ba_inj x2
        subst x3 x4
        refine ⟨?_, hb⟩
        rw [← hL, Array.length_toList]
        rfl
      have c4 : ∀ c : Nat, c < L → ∀ w, TB w → Calls Tryd.prog 9 #[.string (A ++ r.extract 0 c), .int .i64 (A.size : Int)] w fun e w' => e = .returned (.tuple #[.string ⟨#[]⟩, .string ⟨#[]⟩, .int .i64 0, .int .i64 (if c = 0 then 5 else 4)]) ∧ Below w.heap.size w w' := fun c hc w ht => by
        refine (read_any (A ++ r.extract 0 c) A.size (by rw [ByteArray.size_append, ByteArray.size_extract]; omega) (by omega) w ht).mono ?_
        rintro e w' ⟨x, y, n, er, rfl, hx, hb⟩
        have hl : (A ++ r.extract 0 c).data.toList = A.data.toList ++ (recd k.data.toList v.data.toList).take c := by
          rw [cat_any, ← hR, ← hrl, ext_take]
        rw [hl, show (A.size : Int) = (A.data.toList.length : Int) by rw [Array.length_toList]; rfl] at hx
        by_cases h0 : c = 0
        · subst h0
          obtain ⟨x1, x2, rfl, rfl⟩ := cutNone hx
          obtain rfl := ba_eq x1
          obtain rfl := ba_eq x2
          exact ⟨rfl, hb⟩
        · obtain ⟨x1, x2, rfl, rfl⟩ := cutShort h1 (by omega) (by omega) (by omega) hx
          obtain rfl := ba_eq x1
          obtain rfl := ba_eq x2
          exact ⟨by rw [if_neg h0], hb⟩
      clear hr hrl hRl e1 e2 hR h2 hL h1
      have n1 : ¬ 9223372036854775807 < A.size + r.size := by omega
      have n2 : ¬ 9223372036854775807 < A.size + r.size + B.size := by omega
      refine (c1 _ (hT.below b0)).mono ?_
      rintro e w1 ⟨rfl, b1⟩
      replace b1 := below_seq b0 b1
      dsimp only
      go_wp2_with fail
      refine (c3 _ (hT.below b1)).mono ?_
      rintro e w2 ⟨rfl, b2⟩
      replace b2 := below_seq b1 b2
      dsimp only
      have d1 : ((A.size : Int) + (L : Int) == (A.size : Int) + (r.size : Int)) = true := by rw [hrs]; exact beq_self_eq_true _
      go_wp2_with fail
      refine (c2 _).mono ?_
      rintro e w3 ⟨rfl, rfl⟩
      dsimp only
      clear c1 c2 c3
      obtain ⟨c, hc, hcL⟩ : ∃ c : Nat, wrap64 ((IntKind.u64.wrap cut).tmod (L : Int)) = (c : Int) ∧ c < L := cut_mod cut L hL2
      have c5 := c4 c hcL
      clear c4
      have hsl := run_slH r c (by omega)
      have n3 : ¬ 9223372036854775807 < A.size + (r.extract 0 c).size := by rw [ByteArray.size_extract]; omega
      generalize r.extract 0 c = q at *
      go_wp2_with fail
      refine (c5 _ (hT.below b2)).mono ?_
      rintro e w4 ⟨rfl, b4⟩
      replace b4 := below_seq b2 b4
      dsimp only
      by_cases h0 : c = 0
      · rw [if_pos h0]
        have d0 : ((c : Int) == 0) = true := by rw [h0]; rfl
        clear h0 c5
        go_wp2_with fail
        go_ret
        exact ⟨rfl, b4⟩
      · rw [if_neg h0]
        have d0 : ((c : Int) == 0) = false := beq_eq_false_iff_ne.2 (by omega)
        clear h0 c5
        go_wp2_with fail
        go_ret
        exact ⟨rfl, b4⟩
  · rw [Bool.not_eq_true] at h1
    rw [h1] at c2
    have e1 : wrote k.data.toList v.data.toList = [] := by unfold wrote; rw [if_pos h1]
    have e2 : werr k.data.toList v.data.toList = 1 := by unfold werr; rw [if_pos h1]
    rw [e1, e2] at c1
    clear h1 e1 e2
    refine (c1 _ (hT.below b0)).mono ?_
    rintro e w1 ⟨rfl, b1⟩
    replace b1 := below_seq b0 b1
    dsimp only
    go_wp2_with fail
    refine (c2 _).mono ?_
    rintro e w2 ⟨rfl, rfl⟩
    dsimp only
    go_wp2_with fail
    go_ret
    exact ⟨rfl, b1⟩
end paxBack
end Go.Proofs.YtokkoacfmdnmaaaDoor
