/- TupleLimits: the walk. -/
import Derived.Test.YtijkabnhedmimaaLift
import Derived.Test.YtijkabnhedmimaaOpn
import Derived.Test.YtijkabnhedmimaaApS
namespace Go.Proofs.Ytijkabnhedmimaa
set_option linter.unusedVariables false
set_option linter.unusedSimpArgs false
open Go.RowKit
attribute [local go_sem ↓] Go.wp_at_zero Go.wp_at_succ
attribute [local go_sem ↓] sl9 ix9 slPe
theorem len_small {l : List Pt} (h : bulk l ≤ 20971520) : l.length ≤ 1000000000000 := Nat.le_trans (bulk_len l) (by omega)
set_option maxHeartbeats 8000000 in
theorem tupleLimits_walk (l : List Pt) (a : Option Addr) (ca : Nat) (m : List Pt) (b : Option Addr) (cb : Nat) (n : Int) (W : World) (hP : PIn W a l) (hN : N64 l) (hB : bulk l ≤ 20971520) (hP2 : PIn W b m) (hN2 : N64 m) (hB2 : bulk m ≤ 20971520) (n1 : -9223372036854775808 ≤ n) (n2 : n ≤ 9223372036854775807) :
    Calls Try.prog 6 #[.slice a l.length ca, .slice b m.length cb, .int .i64 n] W fun e w' => e = .returned (.bool true) ∧ Below W.heap.size W w' := by
  go_enter Try.func6, Try.ntmps6
  go_wp2_with fail
  refine (head_of cmpC _).mono ?_
  rintro e w1 ⟨rfl, hb1⟩
  dsimp only
  go_wp2_with fail
  refine (parts_any l w1 a ca (hP.later hb1) (len_small hB)).mono ?_
  rintro e w2 ⟨va, rfl, hOa, hb2⟩
  dsimp only
  go_wp2_with fail
  refine (parts_any m w2 b cb (hP2.later (below_seq hb1 hb2)) (len_small hB2)).mono ?_
  rintro e w3 ⟨vb, rfl, hOb, hb3⟩
  dsimp only
  have hA := fixL_ok hN
  have hBb := fixL_ok hN2
  have bA : bulk (l.map fix) ≤ 20971520 := Nat.le_trans (bulk_fix l) hB
  have bB : bulk (m.map fix) ≤ 20971520 := Nat.le_trans (bulk_fix m) hB2
  have hOa3 := hOa.later hb3
  have HB : Below W.heap.size W w3 := below_seq (below_seq hb1 hb2) hb3
  clear hOa hb1 hb2 hb3 hP hP2
  generalize l.map fix = A at *
  generalize m.map fix = B at *
  obtain ⟨aa, caa, rfl, sA⟩ := hOa3.sl
  obtain ⟨ab, cab, rfl, sB⟩ := hOb.sl
  have lA : A.length ≤ 20971520 := Nat.le_trans (bulk_len A) bA
  by_cases hn : 0 ≤ n ∧ n ≤ (A.length : Int)
  · obtain ⟨k, rfl⟩ : ∃ k : Nat, n = (k : Int) := ⟨n.toNat, by omega⟩
    have hkA : k ≤ A.length := by omega
    have d1 : decide ((k : Int) ≤ (A.length : Int)) = true := decide_eq_true hn.2
    have hs := run_slP aa A.length caa k hkA sA.le sA.max sA.nil
    have hE := Ow.empty (base := w3.heap.size) w3 (Nat.le_refl _)
    have lk : (A.take k).length = k := by rw [List.length_take]; omega
    have b0 : Below w3.heap.size w3 (w3.alloc (.cells #[] 27)) := (Below.refl _ _).alloc (Nat.le_refl _) _
    have sk : Sl (w3.alloc (.cells #[] 27)) aa caa (A.take k) := (sA.later b0).take k
    go_wp2_with (refine app_slice rfl _ _ rfl (A.take k) hE sk lk (by simp; omega) rfl rfl ?_; intro vk w4 hOk hb4)
    have b4 : Below w3.heap.size w3 w4 := b0.trans hb4
    have sA4 := sA.later b4
    have HB4 := below_seq HB b4
    obtain ⟨ad, cad, rfl, sD⟩ := hOk.sl
    have hD : okL (A.take k) := fun q hq => hA q (List.mem_of_mem_take hq)
    have bD : bulk (A.take k) ≤ 20971520 := by
      have : bulk A = bulk (A.take k) + bulk (A.drop k) := by rw [← bulk_append, List.take_append_drop]
      omega
    rw [List.nil_append] at *
    rw [lk]
    have lkk : k = (A.take k).length := lk.symm
    clear hE b0 sk hb4 b4 sA HB hOk sB hs d1 lk hOb hBb bB hOa3 hn
    generalize A.take k = D at *
    rw [lkk]
    clear lkk
    -- from here: A in (aa, caa), D in (ad, cad), both in w4
    have hw1 := write_any A w4 aa caa sA4.at' (okL_n64 hA) (by omega)
    rw [wrote_ok (okL_all hA)] at hw1
    have lwA : (wt A).length ≤ 20971520 := Nat.le_trans (wt_bulk A) bA
    have lwD : (wt D).length ≤ 20971520 := Nat.le_trans (wt_bulk D) bD
    refine hw1.mono ?_
    rintro e w5 ⟨rfl, hb5⟩
    dsimp only
    have hw2 := limits_any D w5 ad cad (sD.at'.later hb5) (okL_n64 hD) (by omega)
    rw [limited_ok (okL_all hD)] at hw2
    go_wp2_with fail
    refine hw2.mono ?_
    rintro e w6 ⟨rfl, hb6⟩
    dsimp only
    have hw3 := write_any D w6 ad cad (sD.at'.later (below_seq hb5 hb6)) (okL_n64 hD) (by omega)
    rw [wrote_ok (okL_all hD)] at hw3
    go_wp2_with fail
    refine hw3.mono ?_
    rintro e w7 ⟨rfl, hb7⟩
    dsimp only
    have h47 := below_seq (below_seq hb5 hb6) hb7
    have hwb := begins_any A D w7 aa ad caa cad (sA4.later h47) (sD.later h47) (by omega) (by have := bulk_len D; omega)
    have HB7 : Below W.heap.size W w7 := below_seq HB4 h47
    have hlen : ∀ T : List UInt8, T.length ≤ 20971520 → ¬ 9223372036854775807 < T.length + 1 := fun T h => by omega
    have hl1 := hlen _ lwD
    have hcat : (⟨(wt D).toArray⟩ ++ ⟨#[255]⟩ : ByteArray).toList = wt D ++ [255] := by
      have e : (⟨(wt D).toArray⟩ ++ ⟨#[255]⟩ : ByteArray) = ⟨(wt D ++ [255]).toArray⟩ := cat_str (wt D) [255]
      rw [e]; exact str_toList _
    clear hw1 hw2 hw3 sA4 sD hb5 hb6 hb7 h47 HB4
    by_cases hpre : ∃ R, A = D ++ R
    · rw [beg_true hpre] at hwb
      obtain ⟨f1, f2, f3, f4⟩ : (wt A).take (wt D).length = wt D ∧ (wt D).length ≤ (wt A).length ∧ bcmp (wt A) (wt D) ≠ -1 ∧ bcmp (wt A) (wt D ++ [255]) = -1 := by
        obtain ⟨R, rfl⟩ := hpre
        exact in_wt (fun q hq => hA q (List.mem_append.2 (Or.inr hq)))
      clear hpre
      have f3' : Go.Op.bytesLess (wt A) (wt D) = false := by rw [bytesLess_eq]; exact decide_eq_false f3
      have f4' : Go.Op.bytesLess (wt A) (wt D ++ [255]) = true := by rw [bytesLess_eq]; exact decide_eq_true f4
      have g2 : decide (((wt D).length : Int) ≤ ((wt A).length : Int)) = true := decide_eq_true (by omega)
      have hs2 := run_hi (wt A) (wt D).length f2 (by omega)
      rw [f1] at hs2
      clear f1 f3 f4
      generalize wt A = S at *
      generalize wt D = T at *
      go_wp2_with (go_at_call 15; refine hwb.mono ?_; rintro e w8 ⟨rfl, hb8⟩)
      go_ret
      exact ⟨rfl, below_seq HB7 hb8⟩
    · rw [beg_false hpre] at hwb
      obtain ⟨f1, f2⟩ := pre_wt hA hD hpre
      clear hpre
      by_cases g2 : (wt D).length ≤ (wt A).length
      · have d2 : decide (((wt D).length : Int) ≤ ((wt A).length : Int)) = true := decide_eq_true (by omega)
        have hs2 := run_hi (wt A) (wt D).length g2 (by omega)
        have f1' : ((wt A).take (wt D).length == wt D) = false := by
          rw [beq_eq_false_iff_ne]
          rcases f1 with h | h
          · omega
          · exact h
        clear f1
        generalize (wt A).take (wt D).length = U at *
        by_cases f3 : bcmp (wt A) (wt D) = -1
        · have f3' : Go.Op.bytesLess (wt A) (wt D) = true := by rw [bytesLess_eq]; exact decide_eq_true f3
          clear f2 f3
          generalize wt A = S at *
          generalize wt D = T at *
          go_wp2_with (go_at_call 15; refine hwb.mono ?_; rintro e w8 ⟨rfl, hb8⟩)
          go_ret
          exact ⟨rfl, below_seq HB7 hb8⟩
        · have f3' : Go.Op.bytesLess (wt A) (wt D) = false := by rw [bytesLess_eq]; exact decide_eq_false f3
          have f4' : Go.Op.bytesLess (wt A) (wt D ++ [255]) = false := by
            rw [bytesLess_eq]
            rcases f2 with h | h
            · exact absurd h f3
            · exact decide_eq_false h
          clear f2 f3
          generalize wt A = S at *
          generalize wt D = T at *
          go_wp2_with (go_at_call 15; refine hwb.mono ?_; rintro e w8 ⟨rfl, hb8⟩)
          go_ret
          exact ⟨rfl, below_seq HB7 hb8⟩
      · have d2 : decide (((wt D).length : Int) ≤ ((wt A).length : Int)) = false := decide_eq_false (by omega)
        clear f1
        by_cases f3 : bcmp (wt A) (wt D) = -1
        · have f3' : Go.Op.bytesLess (wt A) (wt D) = true := by rw [bytesLess_eq]; exact decide_eq_true f3
          clear f2 f3
          generalize wt A = S at *
          generalize wt D = T at *
          go_wp2_with (go_at_call 15; refine hwb.mono ?_; rintro e w8 ⟨rfl, hb8⟩)
          go_ret
          exact ⟨rfl, below_seq HB7 hb8⟩
        · have f3' : Go.Op.bytesLess (wt A) (wt D) = false := by rw [bytesLess_eq]; exact decide_eq_false f3
          have f4' : Go.Op.bytesLess (wt A) (wt D ++ [255]) = false := by
            rw [bytesLess_eq]
            rcases f2 with h | h
            · exact absurd h f3
            · exact decide_eq_false h
          clear f2 f3
          generalize wt A = S at *
          generalize wt D = T at *
          go_wp2_with (go_at_call 15; refine hwb.mono ?_; rintro e w8 ⟨rfl, hb8⟩)
          go_ret
          exact ⟨rfl, below_seq HB7 hb8⟩
  · have hn' : (decide (0 ≤ n) && decide (n ≤ (A.length : Int))) = false := by
      by_cases h : 0 ≤ n
      · rw [decide_eq_false (fun q => hn ⟨h, q⟩), Bool.and_false]
      · rw [decide_eq_false h, Bool.false_and]
    have sA4 := sA
    have sD := sB
    have hD := hBb
    have bD := bB
    have HB4 := HB
    clear sA sB hBb bB HB hOa3 hOb
    by_cases h0 : 0 ≤ n
    · have h1 : ¬ n ≤ (A.length : Int) := fun q => hn ⟨h0, q⟩
      clear hn hn'
      go_wp2_with fail
      -- from here: A in (aa, caa), B , both in w3
      have hw1 := write_any A w3 aa caa sA4.at' (okL_n64 hA) (by omega)
      rw [wrote_ok (okL_all hA)] at hw1
      have lwA : (wt A).length ≤ 20971520 := Nat.le_trans (wt_bulk A) bA
      have lwD : (wt B).length ≤ 20971520 := Nat.le_trans (wt_bulk B) bD
      refine hw1.mono ?_
      rintro e w5 ⟨rfl, hb5⟩
      dsimp only
      have hw2 := limits_any B w5 ab cab (sD.at'.later hb5) (okL_n64 hD) (by omega)
      rw [limited_ok (okL_all hD)] at hw2
      go_wp2_with fail
      refine hw2.mono ?_
      rintro e w6 ⟨rfl, hb6⟩
      dsimp only
      have hw3 := write_any B w6 ab cab (sD.at'.later (below_seq hb5 hb6)) (okL_n64 hD) (by omega)
      rw [wrote_ok (okL_all hD)] at hw3
      go_wp2_with fail
      refine hw3.mono ?_
      rintro e w7 ⟨rfl, hb7⟩
      dsimp only
      have h47 := below_seq (below_seq hb5 hb6) hb7
      have hwb := begins_any A B w7 aa ab caa cab (sA4.later h47) (sD.later h47) (by omega) (by have := bulk_len B; omega)
      have HB7 : Below W.heap.size W w7 := below_seq HB4 h47
      have hlen : ∀ T : List UInt8, T.length ≤ 20971520 → ¬ 9223372036854775807 < T.length + 1 := fun T h => by omega
      have hl1 := hlen _ lwD
      have hcat : (⟨(wt B).toArray⟩ ++ ⟨#[255]⟩ : ByteArray).toList = wt B ++ [255] := by
        have e : (⟨(wt B).toArray⟩ ++ ⟨#[255]⟩ : ByteArray) = ⟨(wt B ++ [255]).toArray⟩ := cat_str (wt B) [255]
        rw [e]; exact str_toList _
      clear hw1 hw2 hw3 sA4 sD hb5 hb6 hb7 h47 HB4
      by_cases hpre : ∃ R, A = B ++ R
      · rw [beg_true hpre] at hwb
        obtain ⟨f1, f2, f3, f4⟩ : (wt A).take (wt B).length = wt B ∧ (wt B).length ≤ (wt A).length ∧ bcmp (wt A) (wt B) ≠ -1 ∧ bcmp (wt A) (wt B ++ [255]) = -1 := by
          obtain ⟨R, rfl⟩ := hpre
          exact in_wt (fun q hq => hA q (List.mem_append.2 (Or.inr hq)))
        clear hpre
        have f3' : Go.Op.bytesLess (wt A) (wt B) = false := by rw [bytesLess_eq]; exact decide_eq_false f3
        have f4' : Go.Op.bytesLess (wt A) (wt B ++ [255]) = true := by rw [bytesLess_eq]; exact decide_eq_true f4
        have g2 : decide (((wt B).length : Int) ≤ ((wt A).length : Int)) = true := decide_eq_true (by omega)
        have hs2 := run_hi (wt A) (wt B).length f2 (by omega)
        rw [f1] at hs2
        clear f1 f3 f4
        generalize wt A = S at *
        generalize wt B = T at *
        go_wp2_with (go_at_call 15; refine hwb.mono ?_; rintro e w8 ⟨rfl, hb8⟩)
        go_ret
        exact ⟨rfl, below_seq HB7 hb8⟩
      · rw [beg_false hpre] at hwb
        obtain ⟨f1, f2⟩ := pre_wt hA hD hpre
        clear hpre
        by_cases g2 : (wt B).length ≤ (wt A).length
        · have d2 : decide (((wt B).length : Int) ≤ ((wt A).length : Int)) = true := decide_eq_true (by omega)
          have hs2 := run_hi (wt A) (wt B).length g2 (by omega)
          have f1' : ((wt A).take (wt B).length == wt B) = false := by
            rw [beq_eq_false_iff_ne]
            rcases f1 with h | h
            · omega
            · exact h
          clear f1
          generalize (wt A).take (wt B).length = U at *
          by_cases f3 : bcmp (wt A) (wt B) = -1
          · have f3' : Go.Op.bytesLess (wt A) (wt B) = true := by rw [bytesLess_eq]; exact decide_eq_true f3
            clear f2 f3
            generalize wt A = S at *
            generalize wt B = T at *
            go_wp2_with (go_at_call 15; refine hwb.mono ?_; rintro e w8 ⟨rfl, hb8⟩)
            go_ret
            exact ⟨rfl, below_seq HB7 hb8⟩
          · have f3' : Go.Op.bytesLess (wt A) (wt B) = false := by rw [bytesLess_eq]; exact decide_eq_false f3
            have f4' : Go.Op.bytesLess (wt A) (wt B ++ [255]) = false := by
              rw [bytesLess_eq]
              rcases f2 with h | h
              · exact absurd h f3
              · exact decide_eq_false h
            clear f2 f3
            generalize wt A = S at *
            generalize wt B = T at *
            go_wp2_with (go_at_call 15; refine hwb.mono ?_; rintro e w8 ⟨rfl, hb8⟩)
            go_ret
            exact ⟨rfl, below_seq HB7 hb8⟩
        · have d2 : decide (((wt B).length : Int) ≤ ((wt A).length : Int)) = false := decide_eq_false (by omega)
          clear f1
          by_cases f3 : bcmp (wt A) (wt B) = -1
          · have f3' : Go.Op.bytesLess (wt A) (wt B) = true := by rw [bytesLess_eq]; exact decide_eq_true f3
            clear f2 f3
            generalize wt A = S at *
            generalize wt B = T at *
            go_wp2_with (go_at_call 15; refine hwb.mono ?_; rintro e w8 ⟨rfl, hb8⟩)
            go_ret
            exact ⟨rfl, below_seq HB7 hb8⟩
          · have f3' : Go.Op.bytesLess (wt A) (wt B) = false := by rw [bytesLess_eq]; exact decide_eq_false f3
            have f4' : Go.Op.bytesLess (wt A) (wt B ++ [255]) = false := by
              rw [bytesLess_eq]
              rcases f2 with h | h
              · exact absurd h f3
              · exact decide_eq_false h
            clear f2 f3
            generalize wt A = S at *
            generalize wt B = T at *
            go_wp2_with (go_at_call 15; refine hwb.mono ?_; rintro e w8 ⟨rfl, hb8⟩)
            go_ret
            exact ⟨rfl, below_seq HB7 hb8⟩
    · clear hn hn'
      go_wp2_with fail
      -- from here: A in (aa, caa), B , both in w3
      have hw1 := write_any A w3 aa caa sA4.at' (okL_n64 hA) (by omega)
      rw [wrote_ok (okL_all hA)] at hw1
      have lwA : (wt A).length ≤ 20971520 := Nat.le_trans (wt_bulk A) bA
      have lwD : (wt B).length ≤ 20971520 := Nat.le_trans (wt_bulk B) bD
      refine hw1.mono ?_
      rintro e w5 ⟨rfl, hb5⟩
      dsimp only
      have hw2 := limits_any B w5 ab cab (sD.at'.later hb5) (okL_n64 hD) (by omega)
      rw [limited_ok (okL_all hD)] at hw2
      go_wp2_with fail
      refine hw2.mono ?_
      rintro e w6 ⟨rfl, hb6⟩
      dsimp only
      have hw3 := write_any B w6 ab cab (sD.at'.later (below_seq hb5 hb6)) (okL_n64 hD) (by omega)
      rw [wrote_ok (okL_all hD)] at hw3
      go_wp2_with fail
      refine hw3.mono ?_
      rintro e w7 ⟨rfl, hb7⟩
      dsimp only
      have h47 := below_seq (below_seq hb5 hb6) hb7
      have hwb := begins_any A B w7 aa ab caa cab (sA4.later h47) (sD.later h47) (by omega) (by have := bulk_len B; omega)
      have HB7 : Below W.heap.size W w7 := below_seq HB4 h47
      have hlen : ∀ T : List UInt8, T.length ≤ 20971520 → ¬ 9223372036854775807 < T.length + 1 := fun T h => by omega
      have hl1 := hlen _ lwD
      have hcat : (⟨(wt B).toArray⟩ ++ ⟨#[255]⟩ : ByteArray).toList = wt B ++ [255] := by
        have e : (⟨(wt B).toArray⟩ ++ ⟨#[255]⟩ : ByteArray) = ⟨(wt B ++ [255]).toArray⟩ := cat_str (wt B) [255]
        rw [e]; exact str_toList _
      clear hw1 hw2 hw3 sA4 sD hb5 hb6 hb7 h47 HB4
      by_cases hpre : ∃ R, A = B ++ R
      · rw [beg_true hpre] at hwb
        obtain ⟨f1, f2, f3, f4⟩ : (wt A).take (wt B).length = wt B ∧ (wt B).length ≤ (wt A).length ∧ bcmp (wt A) (wt B) ≠ -1 ∧ bcmp (wt A) (wt B ++ [255]) = -1 := by
          obtain ⟨R, rfl⟩ := hpre
          exact in_wt (fun q hq => hA q (List.mem_append.2 (Or.inr hq)))
        clear hpre
        have f3' : Go.Op.bytesLess (wt A) (wt B) = false := by rw [bytesLess_eq]; exact decide_eq_false f3
        have f4' : Go.Op.bytesLess (wt A) (wt B ++ [255]) = true := by rw [bytesLess_eq]; exact decide_eq_true f4
        have g2 : decide (((wt B).length : Int) ≤ ((wt A).length : Int)) = true := decide_eq_true (by omega)
        have hs2 := run_hi (wt A) (wt B).length f2 (by omega)
        rw [f1] at hs2
        clear f1 f3 f4
        generalize wt A = S at *
        generalize wt B = T at *
        go_wp2_with (go_at_call 15; refine hwb.mono ?_; rintro e w8 ⟨rfl, hb8⟩)
        go_ret
        exact ⟨rfl, below_seq HB7 hb8⟩
      · rw [beg_false hpre] at hwb
        obtain ⟨f1, f2⟩ := pre_wt hA hD hpre
        clear hpre
        by_cases g2 : (wt B).length ≤ (wt A).length
        · have d2 : decide (((wt B).length : Int) ≤ ((wt A).length : Int)) = true := decide_eq_true (by omega)
          have hs2 := run_hi (wt A) (wt B).length g2 (by omega)
          have f1' : ((wt A).take (wt B).length == wt B) = false := by
            rw [beq_eq_false_iff_ne]
            rcases f1 with h | h
            · omega
            · exact h
          clear f1
          generalize (wt A).take (wt B).length = U at *
          by_cases f3 : bcmp (wt A) (wt B) = -1
          · have f3' : Go.Op.bytesLess (wt A) (wt B) = true := by rw [bytesLess_eq]; exact decide_eq_true f3
            clear f2 f3
            generalize wt A = S at *
            generalize wt B = T at *
            go_wp2_with (go_at_call 15; refine hwb.mono ?_; rintro e w8 ⟨rfl, hb8⟩)
            go_ret
            exact ⟨rfl, below_seq HB7 hb8⟩
          · have f3' : Go.Op.bytesLess (wt A) (wt B) = false := by rw [bytesLess_eq]; exact decide_eq_false f3
            have f4' : Go.Op.bytesLess (wt A) (wt B ++ [255]) = false := by
              rw [bytesLess_eq]
              rcases f2 with h | h
              · exact absurd h f3
              · exact decide_eq_false h
            clear f2 f3
            generalize wt A = S at *
            generalize wt B = T at *
            go_wp2_with (go_at_call 15; refine hwb.mono ?_; rintro e w8 ⟨rfl, hb8⟩)
            go_ret
            exact ⟨rfl, below_seq HB7 hb8⟩
        · have d2 : decide (((wt B).length : Int) ≤ ((wt A).length : Int)) = false := decide_eq_false (by omega)
          clear f1
          by_cases f3 : bcmp (wt A) (wt B) = -1
          · have f3' : Go.Op.bytesLess (wt A) (wt B) = true := by rw [bytesLess_eq]; exact decide_eq_true f3
            clear f2 f3
            generalize wt A = S at *
            generalize wt B = T at *
            go_wp2_with (go_at_call 15; refine hwb.mono ?_; rintro e w8 ⟨rfl, hb8⟩)
            go_ret
            exact ⟨rfl, below_seq HB7 hb8⟩
          · have f3' : Go.Op.bytesLess (wt A) (wt B) = false := by rw [bytesLess_eq]; exact decide_eq_false f3
            have f4' : Go.Op.bytesLess (wt A) (wt B ++ [255]) = false := by
              rw [bytesLess_eq]
              rcases f2 with h | h
              · exact absurd h f3
              · exact decide_eq_false h
            clear f2 f3
            generalize wt A = S at *
            generalize wt B = T at *
            go_wp2_with (go_at_call 15; refine hwb.mono ?_; rintro e w8 ⟨rfl, hb8⟩)
            go_ret
            exact ⟨rfl, below_seq HB7 hb8⟩
end Go.Proofs.Ytijkabnhedmimaa
