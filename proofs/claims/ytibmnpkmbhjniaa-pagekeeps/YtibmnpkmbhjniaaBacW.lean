/- PageBack: the walk. -/
import Derived.Test.YtibmnpkmbhjniaaFitW
import Derived.Laws.Concat
namespace Go.Proofs.Ytibmnpkmbhjniaa
set_option linter.unusedVariables false
set_option linter.unusedSimpArgs false
open Go.RowKit
noncomputable def adS (v x : Value) : Sem Value := binOp BinOp.add 9 v x
theorem ad9 (v x : Value) : binOp BinOp.add 9 v x = adS v x := rfl
theorem run_ad (x y : List UInt8) (h : x.length + y.length ≤ 9223372036854775807) (w : World) : (adS (str x) (str y)).run Try.prog w = .ok (str (x ++ y)) w := by
  have hr := run_string_add_sum (P := Try.prog) w ⟨x.toArray⟩ ⟨y.toArray⟩ (by rw [str_size, str_size]; exact h)
  have e : (⟨x.toArray⟩ : ByteArray) ++ ⟨y.toArray⟩ = ⟨(x ++ y).toArray⟩ := by
    apply ByteArray.ext
    simp
  unfold adS
  rw [e] at hr
  simpa [binOp] using hr
theorem read_some {b : List UInt8} {k j : Int} {l : List En} (h : rdv b = some (k, j, l)) (w : World) (hb : b.length ≤ 9223372036854775807) :
    Calls Try.prog 12 #[str b] w fun e w' => ∃ v, e = .returned (.tuple #[pgv k j v, .int .i64 0]) ∧ Ow w.heap.size w' v l ∧ Below w.heap.size w w' := by
  have := read_any b w hb
  rw [h] at this
  exact this.mono fun e w' ⟨h1, v, h2, h3⟩ => ⟨v, h2, h3, h1⟩
theorem read_none {b : List UInt8} (h : rdv b = none) (w : World) (hb : b.length ≤ 9223372036854775807) :
    Calls Try.prog 12 #[str b] w fun e w' => e = .returned (.tuple #[pgv 0 0 (.slice none 0 0), .int .i64 4]) ∧ Below w.heap.size w w' := by
  have := read_any b w hb
  rw [h] at this
  exact this.mono fun e w' ⟨h1, h2⟩ => ⟨h2, h1⟩
theorem rdv_len {b : List UInt8} (h : b.length ≠ 512) : rdv b = none := by unfold rdv; rw [if_neg h]
theorem rdv_turned {k j : Int} {l : List En} (h : flt k j l = 0) (ht : 5 + tot l < 512) : rdv ((blk k j l).take 511 ++ [1]) = none := by
  obtain ⟨_, _, h5, _⟩ := flt_zero h
  have hl := blk_length (kind := k) (link := j) h5
  refine rdv_other h _ (by rw [List.length_append, List.length_take, hl]; rfl) ?_ ?_
  · rw [List.take_append_of_le_length (by rw [List.length_take, hl]; omega), List.take_take]
    congr 1
    omega
  · intro q
    have h1 : ((blk k j l).take 511 ++ [1])[511]? = some (1 : UInt8) := by
      rw [List.getElem?_append_right (by rw [List.length_take, hl]; omega), List.length_take, hl]
      rfl
    have h2 : (blk k j l)[511]? = some (0 : UInt8) := by
      unfold blk
      rw [List.getElem?_append_right (by rw [blk0_length]; omega), blk0_length, List.getElem?_replicate]
      rw [if_pos (by omega)]
    rw [q, h2] at h1
    cases h1
theorem below_set3' {B : Nat} {w w2 : World} {R : Nat} {a b c : Value} (hR : B ≤ R) (h : Below B w w2) : Below B w (((w2.setCell ⟨R, 0, none⟩ a).setCell ⟨R, 1, none⟩ b).setCell ⟨R, 2, none⟩ c) :=
  ((h.setCell (p := ⟨R, 0, none⟩) hR _).setCell (p := ⟨R, 1, none⟩) hR _).setCell (p := ⟨R, 2, none⟩) hR _
attribute [local go_sem ↓] Go.wp_at_zero Go.wp_at_succ
attribute [local go_sem ↓] slPe sl9 ad9
set_option maxHeartbeats 8000000 in
theorem pageBack_walk (kind link : Int) (raw : List En) (a : Option Addr) (cap : Nat) (b : List UInt8) (W : World) (hk1 : -9223372036854775808 ≤ kind) (hk2 : kind ≤ 9223372036854775807) (hj1 : -9223372036854775808 ≤ link) (hj2 : link ≤ 9223372036854775807)
    (hP : PIn W a raw) (hz : ∀ (k : Nat) (e : En), raw[k]? = some e → e.key.length ≤ 140737488351232 ∧ e.val.length ≤ 140737488351232) (hl : raw.length ≤ 4398046510976) (hb : b.length ≤ 140737488351232) :
    Calls Try.prog 3 #[.int .i64 kind, .int .i64 link, .slice a raw.length cap, str b] W fun e W' => e = .returned (.bool true) ∧ Below W.heap.size W W' := by
  obtain ⟨K, hK, hand⟩ := and255 hk1 hk2
  obtain ⟨J, hJ, hand2⟩ := and65535 hj1 hj2
  have hU := fulU_inv 507 raw 300
  have hUl := fulU_len raw 300
  have hfu := fun w h => full_any raw w a cap h (by omega) (fun k e he => ⟨by have := (hz k e he).1; omega, by have := (hz k e he).2; omega⟩)
  have hfl : (fulL 507 raw).length ≤ 253 := hUl
  have fA : flt (K : Int) (J : Int) (fulL 507 raw) = 0 := flt_ok hK hJ hU.2.1 hU.2.2 hU.1
  have ht : tot (fulL 507 raw) ≤ 507 := hU.2.2
  clear hU hUl
  generalize fulL 507 raw = U at *
  have hWr := fun w a n cap hn h => write_any (K : Int) (J : Int) U w a n cap hn h (by omega)
  rw [wrote_good fA] at hWr
  have hSl := blk_length (kind := (K : Int)) (link := (J : Int)) ht
  have hR1 := fun w => read_some (rdv_blk fA) w (by omega)
  have r511 : ∀ w, (slS (str (blk (K : Int) (J : Int) U)) none (some (.int .i64 511)) none).run Try.prog w = .ok (str ((blk (K : Int) (J : Int) U).take 511)) w := run_hi _ 511 (by omega) (by omega)
  have l511 : ((blk (K : Int) (J : Int) U).take 511).length = 511 := by rw [List.length_take]; omega
  have hR2 := fun w => read_none (rdv_len (b := (blk (K : Int) (J : Int) U).take 511) (by omega)) w (by omega)
  have radd : ∀ w, (adS (str (blk (K : Int) (J : Int) U)) (.string ⟨#[0]⟩)).run Try.prog w = .ok (str (blk (K : Int) (J : Int) U ++ [0])) w := fun w => run_ad _ [0] (by simp; omega) w
  have hR3 := fun w => read_none (rdv_len (b := blk (K : Int) (J : Int) U ++ [0]) (by simp; omega)) w (by simp; omega)
  have radd2 : ∀ w, (adS (str ((blk (K : Int) (J : Int) U).take 511)) (.string ⟨#[1]⟩)).run Try.prog w = .ok (str ((blk (K : Int) (J : Int) U).take 511 ++ [1])) w := fun w => run_ad _ [1] (by simp; omega) w
  have HR4 : Hid (5 + tot U < 512 → ∀ w, Calls Try.prog 12 #[str ((blk (K : Int) (J : Int) U).take 511 ++ [1])] w fun e w' => e = .returned (.tuple #[pgv 0 0 (.slice none 0 0), .int .i64 4]) ∧ Below w.heap.size w w') := ⟨fun h w => read_none (rdv_turned fA h) w (by simp; omega)⟩
  have hSz := fun w a cap h => Size_any U w a cap h (by omega)
  rw [totw_small (by omega)] at hSz
  have hsm := fun w pa pb ca cb h1 h2 => same_any U U w pa pb U.length U.length ca cb rfl rfl h1 h2 (by omega) (by omega)
  rw [same_true rfl] at hsm
  clear fA
  generalize blk (K : Int) (J : Int) U ++ [0] = S0 at *
  generalize (blk (K : Int) (J : Int) U).take 511 ++ [1] = S1 at *
  generalize (blk (K : Int) (J : Int) U).take 511 = S5 at *
  generalize blk (K : Int) (J : Int) U = S at *
  go_enter Try.func3, Try.ntmps3
  go_wp2_with fail
  refine (first_any _).mono ?_
  rintro e w1 ⟨rfl, b1⟩
  dsimp only
  go_wp2_with fail
  refine (hfu _ (hP.later b1)).mono ?_
  rintro e w2 ⟨v2, rfl, o2, b2⟩
  dsimp only
  obtain ⟨a2, cp2, rfl, s2⟩ := o2.sl
  have B2 := below_seq b1 b2
  clear o2 b1 b2 hfu
  go_wp2_with fail
  refine (hWr _ _ _ _ rfl s2.at').mono ?_
  rintro e w3 ⟨rfl, b3⟩
  dsimp only
  have s3 := s2.later b3
  have B3 := below_seq B2 b3
  clear s2 b3 B2 hWr
  go_wp2_with fail
  refine (hR1 _).mono ?_
  rintro e w4 ⟨v4, rfl, o4, b4⟩
  dsimp only
  obtain ⟨a4, cp4, rfl, s4⟩ := o4.sl
  have s34 := s3.later b4
  have B4 := below_seq B3 b4
  clear s3 b4 B3 o4 hR1
  have hsm5 := hsm _ a4 a2 cp4 cp2 (s4.later ((Below.refl w4.heap.size w4).alloc (Nat.le_refl _) (.cells #[.int .i64 (K : Int), .int .i64 (J : Int), .slice a4 U.length cp4] 29))).at' (s34.later ((Below.refl w4.heap.size w4).alloc (Nat.le_refl _) (.cells #[.int .i64 (K : Int), .int .i64 (J : Int), .slice a4 U.length cp4] 29))).at'
  go_wp2_with fail
  with_reducible refine Calls.mono hsm5 ?_
  rintro e w5 ⟨rfl, b5⟩
  dsimp only
  have hpb : w5.heap[w4.heap.size]? = some (.cells #[.int .i64 (K : Int), .int .i64 (J : Int), .slice a4 U.length cp4] 29 (0, 0)) := by rw [b5.block _ (by simp)]; exact heap_alloc_new _ _
  have s25 := (s34.later ((Below.refl _ _).alloc (Nat.le_refl _) _)).later b5
  have B5 := (B4.alloc B4.size (.cells #[.int .i64 (K : Int), .int .i64 (J : Int), .slice a4 U.length cp4] 29)).trans (b5.mono (by have := B4.size; simp; omega))
  have hgp : w4.heap.size < w5.heap.size := by have := b5.size; simp at this; omega
  have hgW : W.heap.size ≤ w4.heap.size := B4.size
  clear hsm hsm5 s4 s34 B4 b5
  generalize w4.heap.size = gp at *
  go_wp2_with fail
  with_reducible refine Calls.mono (hR2 _) ?_
  rintro e w6 ⟨rfl, b⟩
  dsimp only
  have qw6 : Below w5.heap.size w5 (w6.alloc (.cells #[.int .i64 0, .int .i64 0, .slice none 0 0] 29)) := (below_seq (Below.refl _ _) b).alloc (below_seq (Below.refl _ _) b).size _
  clear b
  go_wp2_with fail
  with_reducible refine Calls.mono (hR3 _) ?_
  rintro e w7 ⟨rfl, b⟩
  dsimp only
  have qw7 : Below w5.heap.size w5 (w7.alloc (.cells #[.int .i64 0, .int .i64 0, .slice none 0 0] 29)) := (below_seq qw6 b).alloc (below_seq qw6 b).size _
  clear b
  clear qw6 hR2 hR3
  go_wp2_with fail
  with_reducible refine Calls.mono (hSz _ a2 cp2 (s25.later qw7).at') ?_
  rintro e w8 ⟨rfl, b8⟩
  dsimp only
  have qw8 : Below w5.heap.size w5 w8 := below_seq qw7 b8
  clear b8 qw7 hSz s25
  by_cases hend : 5 + tot U < 512
  · have hR4 := HR4.out hend
    have d9 : decide ((5 : Int) + (tot U : Int) < 512) = true := decide_eq_true (by omega)
    generalize tot U = TU at *
    clear hend
    go_wp2_with fail
    with_reducible refine Calls.mono (hR4 _) ?_
    rintro e w9 ⟨rfl, b⟩
    dsimp only
    have qw9 : Below w5.heap.size w5 (w9.alloc (.cells #[.int .i64 0, .int .i64 0, .slice none 0 0] 29)) := (below_seq qw8 b).alloc (below_seq qw8 b).size _
    clear b
    have B9 := B5.trans (qw9.mono B5.size)
    have hp9 := (qw9.block _ hgp).trans hpb
    have hgp9 := Nat.lt_of_lt_of_le hgp qw9.size
    go_wp2_with fail
    cases hv : rdv b with
    | none =>
      have hRb := fun w => read_none hv w (by omega)
      with_reducible refine Calls.mono (hRb _) ?_
      rintro e w10 ⟨rfl, b10⟩
      dsimp only
      have hp10 := (b10.block _ hgp9).trans hp9
      obtain ⟨e0, e1, e2⟩ := box3 hp10
      have f0 := frozen_of_row _ _ 0 _ _ hp10
      have f1 := frozen_of_row _ _ 1 _ _ hp10
      have f2 := frozen_of_row _ _ 2 _ _ hp10
      have B10 := B9.trans (b10.mono B9.size)
      go_wp2_with fail
      go_ret
      exact ⟨rfl, below_set3' hgW B10⟩
    | some r =>
      obtain ⟨k, j, l⟩ := r
      obtain ⟨fb, eb⟩ := rdv_some hv
      have hRb := fun w => read_some hv w (by omega)
      have hll : l.length ≤ 1000 := by have := (flt_zero fb).2.2.1; have := tot_len l; omega
      have hWb := fun w a n cap hn h => write_any k j l w a n cap hn h (by omega)
      rw [wrote_good fb, eb] at hWb
      with_reducible refine Calls.mono (hRb _) ?_
      rintro e w10 ⟨v10, rfl, o10, b10⟩
      dsimp only
      have hp10 := (b10.block _ hgp9).trans hp9
      obtain ⟨e0, e1, e2⟩ := box3 hp10
      have f0 := frozen_of_row _ _ 0 _ _ hp10
      have f1 := frozen_of_row _ _ 1 _ _ hp10
      have f2 := frozen_of_row _ _ 2 _ _ hp10
      have B10 := B9.trans (b10.mono B9.size)
      have o11 := o10.base (b' := gp + 1) hgp9
      obtain ⟨a10, cp10, rfl, _⟩ := o10.sl
      have o12 := ow_set3 (B := 0) (a := .int .i64 k) (b := .int .i64 j) (c := .slice a10 l.length cp10) o11
      obtain ⟨a12, cp12, e12, s12⟩ := o12.sl
      injection e12 with e13 e14 e15
      subst e13 e15
      have B12 := below_set3' (a := .int .i64 k) (b := .int .i64 j) (c := .slice a10 l.length cp10) hgW B10
      have hW12 := hWb _ _ _ cp10 rfl s12.at'
      clear o10 o11 o12 s12
      go_wp2_with fail
      with_reducible refine Calls.mono hW12 ?_
      rintro e w13 ⟨rfl, b13⟩
      dsimp only
      go_wp2_with fail
      go_ret
      exact ⟨rfl, B12.trans (b13.mono B12.size)⟩
  · have d9 : decide ((5 : Int) + (tot U : Int) < 512) = false := decide_eq_false (by omega)
    generalize tot U = TU at *
    clear hend
    have B9 := B5.trans (qw8.mono B5.size)
    have hp9 := (qw8.block _ hgp).trans hpb
    have hgp9 := Nat.lt_of_lt_of_le hgp qw8.size
    go_wp2_with fail
    cases hv : rdv b with
    | none =>
      have hRb := fun w => read_none hv w (by omega)
      with_reducible refine Calls.mono (hRb _) ?_
      rintro e w10 ⟨rfl, b10⟩
      dsimp only
      have hp10 := (b10.block _ hgp9).trans hp9
      obtain ⟨e0, e1, e2⟩ := box3 hp10
      have f0 := frozen_of_row _ _ 0 _ _ hp10
      have f1 := frozen_of_row _ _ 1 _ _ hp10
      have f2 := frozen_of_row _ _ 2 _ _ hp10
      have B10 := B9.trans (b10.mono B9.size)
      go_wp2_with fail
      go_ret
      exact ⟨rfl, below_set3' hgW B10⟩
    | some r =>
      obtain ⟨k, j, l⟩ := r
      obtain ⟨fb, eb⟩ := rdv_some hv
      have hRb := fun w => read_some hv w (by omega)
      have hll : l.length ≤ 1000 := by have := (flt_zero fb).2.2.1; have := tot_len l; omega
      have hWb := fun w a n cap hn h => write_any k j l w a n cap hn h (by omega)
      rw [wrote_good fb, eb] at hWb
      with_reducible refine Calls.mono (hRb _) ?_
      rintro e w10 ⟨v10, rfl, o10, b10⟩
      dsimp only
      have hp10 := (b10.block _ hgp9).trans hp9
      obtain ⟨e0, e1, e2⟩ := box3 hp10
      have f0 := frozen_of_row _ _ 0 _ _ hp10
      have f1 := frozen_of_row _ _ 1 _ _ hp10
      have f2 := frozen_of_row _ _ 2 _ _ hp10
      have B10 := B9.trans (b10.mono B9.size)
      have o11 := o10.base (b' := gp + 1) hgp9
      obtain ⟨a10, cp10, rfl, _⟩ := o10.sl
      have o12 := ow_set3 (B := 0) (a := .int .i64 k) (b := .int .i64 j) (c := .slice a10 l.length cp10) o11
      obtain ⟨a12, cp12, e12, s12⟩ := o12.sl
      injection e12 with e13 e14 e15
      subst e13 e15
      have B12 := below_set3' (a := .int .i64 k) (b := .int .i64 j) (c := .slice a10 l.length cp10) hgW B10
      have hW12 := hWb _ _ _ cp10 rfl s12.at'
      clear o10 o11 o12 s12
      go_wp2_with fail
      with_reducible refine Calls.mono hW12 ?_
      rintro e w13 ⟨rfl, b13⟩
      dsimp only
      go_wp2_with fail
      go_ret
      exact ⟨rfl, B12.trans (b13.mono B12.size)⟩
end Go.Proofs.Ytibmnpkmbhjniaa
