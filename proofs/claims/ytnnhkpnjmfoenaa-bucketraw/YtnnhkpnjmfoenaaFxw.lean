/- fixed: the walk. -/
import Derived.Test.YtnnhkpnjmfoenaaFxd
namespace Go.Proofs.Ytnnhkpnjmfoenaa
set_option linter.unusedVariables false
set_option linter.unusedSimpArgs false
open Go.RowKit
attribute [local go_sem ↓] Go.wp_at_zero Go.wp_at_succ
theorem sl_ab (w : World) : Sl (w.alloc (.cells #[str [97], str [98]] 56)) (some ⟨w.heap.size, 0, none⟩) 1 [⟨[97], [98]⟩] := by
  refine ⟨⟨fun k p hk => ?_⟩, by simp, by omega, fun h => by cases h⟩
  match k with
  | 0 =>
    simp at hk
    subst hk
    refine ⟨w.heap.size, 0, rfl, by simp, ?_, ?_⟩
    · rw [cell_of_row _ _ _ _ _ _ (heap_alloc_new w _)]; rfl
    · rw [cell_of_row _ _ _ _ _ _ (heap_alloc_new w _)]; rfl
  | k + 1 => simp at hk
set_option maxRecDepth 100000 in
set_option maxHeartbeats 8000000 in
theorem fixed_any (w : World) : Calls Try.prog 6 #[] w fun e w' => e = .returned (.bool true) ∧ Below w.heap.size w w' := by
  go_enter Try.func6, Try.ntmps6
  have B0 := Below.refl w.heap.size w
  go_wp2_with fail
  have B1 := B0
  with_reducible refine Calls.mono (bNew_any w) ?_
  rintro e w1 ⟨rfl, b⟩
  dsimp only
  have B1' := below_seq B1 b
  have bx := (Below.refl w1.heap.size w1).alloc (Nat.le_refl _) (.cells #[.int .i64 1, .slice none 0 0] 26)
  have zb := Bq.new w1 (.int .i64 1) (.slice none 0 0)
  have B1' := below_seq B1' bx
  obtain ⟨pzb0, pzb1, _⟩ := zb.cells
  clear b bx
  go_wp2_with fail
  have hz1 : Hid ((w1.alloc (.cells #[.int .i64 1, .slice none 0 0] 26)).heap.size = w1.heap.size + 1) := ⟨by simp⟩
  generalize hW1 : (w1.alloc (.cells #[.int .i64 1, .slice none 0 0] 26)) = W1 at *
  clear hW1
  generalize w1.heap.size = gzb at *
  have B1 := B1'
  have B2 := B1
  with_reducible refine Calls.mono (fPut1 W1) ?_
  rintro e w2 ⟨ac, nc, rfl, Lc, b⟩
  dsimp only
  clear pzb0 pzb1
  have zb := zb.later b
  have B2' := below_seq B2 b
  have ne_zb_zc : Hid (gzb < w2.heap.size) := ⟨zb.lt⟩
  have bx := (Below.refl w2.heap.size w2).alloc (Nat.le_refl _) (.cells #[.int .i64 2, .slice ac 1 nc] 26)
  have zc := Bq.new w2 (.int .i64 2) (.slice ac 1 nc)
  have zb := zb.later bx
  have Lc := Lc.later bx
  have B2' := below_seq B2' bx
  obtain ⟨pzb0, pzb1, _⟩ := zb.cells
  obtain ⟨pzc0, pzc1, _⟩ := zc.cells
  clear b bx
  go_wp2_with fail
  have hz2 : Hid ((w2.alloc (.cells #[.int .i64 2, .slice ac 1 nc] 26)).heap.size = w2.heap.size + 1) := ⟨by simp⟩
  generalize hW2 : (w2.alloc (.cells #[.int .i64 2, .slice ac 1 nc] 26)) = W2 at *
  clear hW2
  generalize w2.heap.size = gzc at *
  have B2 := B2'
  have a3_0 := (Below.refl W2.heap.size W2).alloc (Nat.le_refl _) (.cells #[str [97], str [98]] 56)
  have zb := zb.later a3_0
  have Lc := Lc.later a3_0
  have zc := zc.later a3_0
  have B3 := below_seq B2 a3_0
  with_reducible refine Calls.mono (fPut2 (W2.alloc (.cells #[str [97], str [98]] 56)) _ _ _ _ Lc (by have h := sl_ab W2; rw [hz2.out] at h; exact h)) ?_
  rintro e w3 ⟨ad, nd, rfl, Ld, b⟩
  dsimp only
  clear pzb0 pzb1 pzc0 pzc1
  have zb := zb.later b
  have Lc := Lc.later b
  have zc := zc.later b
  have B3' := below_seq B3 b
  have ne_zb_zd : Hid (gzb < w3.heap.size) := ⟨zb.lt⟩
  have ne_zc_zd : Hid (gzc < w3.heap.size) := ⟨zc.lt⟩
  have bx := (Below.refl w3.heap.size w3).alloc (Nat.le_refl _) (.cells #[.int .i64 3, .slice ad 2 nd] 26)
  have zd := Bq.new w3 (.int .i64 3) (.slice ad 2 nd)
  have zb := zb.later bx
  have Lc := Lc.later bx
  have zc := zc.later bx
  have Ld := Ld.later bx
  have B3' := below_seq B3' bx
  obtain ⟨pzb0, pzb1, _⟩ := zb.cells
  obtain ⟨pzc0, pzc1, _⟩ := zc.cells
  obtain ⟨pzd0, pzd1, _⟩ := zd.cells
  clear b bx
  go_wp2_with fail
  have hz3 : Hid ((w3.alloc (.cells #[.int .i64 3, .slice ad 2 nd] 26)).heap.size = w3.heap.size + 1) := ⟨by simp⟩
  generalize hW3 : (w3.alloc (.cells #[.int .i64 3, .slice ad 2 nd] 26)) = W3 at *
  clear hW3
  generalize w3.heap.size = gzd at *
  have B3 := B3'
  have Lc3 := Hid.mk Lc
  have S3 := Below.refl W3.heap.size W3
  have B4 := B3
  with_reducible refine Calls.mono (fGet2 W3 _ _ _ Ld) ?_
  rintro e w4 ⟨⟨av, nv, rfl⟩, b⟩
  dsimp only
  clear pzb0 pzb1 pzc0 pzc1 pzd0 pzd1
  have zb := zb.later b
  have Lc := Lc.later b
  have zc := zc.later b
  have Ld := Ld.later b
  have zd := zd.later b
  have B4' := below_seq B4 b
  have S3 := below_seq S3 b
  have ne_zb_zv : Hid (gzb < w4.heap.size) := ⟨zb.lt⟩
  have ne_zc_zv : Hid (gzc < w4.heap.size) := ⟨zc.lt⟩
  have ne_zd_zv : Hid (gzd < w4.heap.size) := ⟨zd.lt⟩
  have le_zv : Hid (W3.heap.size ≤ w4.heap.size) := ⟨S3.size⟩
  have bx := (Below.refl w4.heap.size w4).alloc (Nat.le_refl _) (.cells #[str [107], .int .i64 2, .bool false, str [116, 119, 111], .slice av 1 nv] 32)
  have zv := Bv.new w4 (str [107]) (.int .i64 2) (.bool false) (str [116, 119, 111]) (.slice av 1 nv)
  have zb := zb.later bx
  have Lc := Lc.later bx
  have zc := zc.later bx
  have Ld := Ld.later bx
  have zd := zd.later bx
  have B4' := below_seq B4' bx
  have S3 := below_seq S3 bx
  obtain ⟨pzb0, pzb1, _⟩ := zb.cells
  obtain ⟨pzc0, pzc1, _⟩ := zc.cells
  obtain ⟨pzd0, pzd1, _⟩ := zd.cells
  obtain ⟨pzv0, pzv1, pzv2, pzv3, pzv4, pfzv⟩ := zv.cells
  clear b bx
  go_wp2_with fail
  have hz4 : Hid ((w4.alloc (.cells #[str [107], .int .i64 2, .bool false, str [116, 119, 111], .slice av 1 nv] 32)).heap.size = w4.heap.size + 1) := ⟨by simp⟩
  generalize hW4 : (w4.alloc (.cells #[str [107], .int .i64 2, .bool false, str [116, 119, 111], .slice av 1 nv] 32)) = W4 at *
  clear hW4
  generalize w4.heap.size = gzv at *
  have B4 := B4'
  have B5 := B4
  with_reducible refine Calls.mono (fGetV W4 _ _ _ Ld) ?_
  rintro e w5 ⟨⟨aw, nw, rfl⟩, b⟩
  dsimp only
  clear pzb0 pzb1 pzc0 pzc1 pzd0 pzd1 pzv0 pzv1 pzv2 pzv3 pzv4 pfzv
  have zb := zb.later b
  have Lc := Lc.later b
  have zc := zc.later b
  have Ld := Ld.later b
  have zd := zd.later b
  have zv := zv.later b
  have B5' := below_seq B5 b
  have S3 := below_seq S3 b
  have ne_zb_zw : Hid (gzb < w5.heap.size) := ⟨zb.lt⟩
  have ne_zc_zw : Hid (gzc < w5.heap.size) := ⟨zc.lt⟩
  have ne_zd_zw : Hid (gzd < w5.heap.size) := ⟨zd.lt⟩
  have ne_zv_zw : Hid (gzv < w5.heap.size) := ⟨zv.lt⟩
  have le_zw : Hid (W3.heap.size ≤ w5.heap.size) := ⟨S3.size⟩
  have bx := (Below.refl w5.heap.size w5).alloc (Nat.le_refl _) (.cells #[str [107], .int .i64 1, .bool false, str [111, 110, 101], .slice aw 0 nw] 32)
  have zw := Bv.new w5 (str [107]) (.int .i64 1) (.bool false) (str [111, 110, 101]) (.slice aw 0 nw)
  have zb := zb.later bx
  have Lc := Lc.later bx
  have zc := zc.later bx
  have Ld := Ld.later bx
  have zd := zd.later bx
  have zv := zv.later bx
  have B5' := below_seq B5' bx
  have S3 := below_seq S3 bx
  obtain ⟨pzb0, pzb1, _⟩ := zb.cells
  obtain ⟨pzc0, pzc1, _⟩ := zc.cells
  obtain ⟨pzd0, pzd1, _⟩ := zd.cells
  obtain ⟨pzv0, pzv1, pzv2, pzv3, pzv4, pfzv⟩ := zv.cells
  obtain ⟨pzw0, pzw1, pzw2, pzw3, pzw4, pfzw⟩ := zw.cells
  clear b bx
  go_wp2_with fail
  have hz5 : Hid ((w5.alloc (.cells #[str [107], .int .i64 1, .bool false, str [111, 110, 101], .slice aw 0 nw] 32)).heap.size = w5.heap.size + 1) := ⟨by simp⟩
  generalize hW5 : (w5.alloc (.cells #[str [107], .int .i64 1, .bool false, str [111, 110, 101], .slice aw 0 nw] 32)) = W5 at *
  clear hW5
  generalize w5.heap.size = gzw at *
  have B5 := B5'
  have hkx : Hid (gzv < W5.heap.size) := ⟨zv.lt⟩
  have B6 := B5
  with_reducible refine Calls.mono (fDel W5 _ _ Ld) ?_
  rintro e w6 ⟨ax, nx, rfl, Kx, b⟩
  dsimp only
  clear pzb0 pzb1 pzc0 pzc1 pzd0 pzd1 pzv0 pzv1 pzv2 pzv3 pzv4 pfzv pzw0 pzw1 pzw2 pzw3 pzw4 pfzw
  have zb := zb.later b
  have Lc := Lc.later b
  have zc := zc.later b
  have Ld := Ld.later b
  have zd := zd.later b
  have zv := zv.later b
  have zw := zw.later b
  have B6' := below_seq B6 b
  have S3 := below_seq S3 b
  have ne_zb_zx : Hid (gzb < w6.heap.size) := ⟨zb.lt⟩
  have ne_zc_zx : Hid (gzc < w6.heap.size) := ⟨zc.lt⟩
  have ne_zd_zx : Hid (gzd < w6.heap.size) := ⟨zd.lt⟩
  have ne_zv_zx : Hid (gzv < w6.heap.size) := ⟨zv.lt⟩
  have ne_zw_zx : Hid (gzw < w6.heap.size) := ⟨zw.lt⟩
  have le_zx : Hid (W3.heap.size ≤ w6.heap.size) := ⟨S3.size⟩
  have bx := (Below.refl w6.heap.size w6).alloc (Nat.le_refl _) (.cells #[.int .i64 4, .slice ax 3 nx] 26)
  have zx := Bq.new w6 (.int .i64 4) (.slice ax 3 nx)
  have zb := zb.later bx
  have Lc := Lc.later bx
  have zc := zc.later bx
  have Ld := Ld.later bx
  have zd := zd.later bx
  have zv := zv.later bx
  have zw := zw.later bx
  have Kx := Kx.later bx
  have B6' := below_seq B6' bx
  have S3 := below_seq S3 bx
  obtain ⟨pzb0, pzb1, _⟩ := zb.cells
  obtain ⟨pzc0, pzc1, _⟩ := zc.cells
  obtain ⟨pzd0, pzd1, _⟩ := zd.cells
  obtain ⟨pzv0, pzv1, pzv2, pzv3, pzv4, pfzv⟩ := zv.cells
  obtain ⟨pzw0, pzw1, pzw2, pzw3, pzw4, pfzw⟩ := zw.cells
  obtain ⟨pzx0, pzx1, _⟩ := zx.cells
  clear b bx
  go_wp2_with fail
  have hz6 : Hid ((w6.alloc (.cells #[.int .i64 4, .slice ax 3 nx] 26)).heap.size = w6.heap.size + 1) := ⟨by simp⟩
  generalize hW6 : (w6.alloc (.cells #[.int .i64 4, .slice ax 3 nx] 26)) = W6 at *
  clear hW6
  generalize w6.heap.size = gzx at *
  have B6 := B6'
  have B7 := B6
  with_reducible refine Calls.mono (fGet3 W6 _ _ _ Kx.li3) ?_
  rintro e w7 ⟨⟨a7, n7, rfl⟩, b⟩
  dsimp only
  clear pzb0 pzb1 pzc0 pzc1 pzd0 pzd1 pzv0 pzv1 pzv2 pzv3 pzv4 pfzv pzw0 pzw1 pzw2 pzw3 pzw4 pfzw pzx0 pzx1
  have zb := zb.later b
  have Lc := Lc.later b
  have zc := zc.later b
  have Ld := Ld.later b
  have zd := zd.later b
  have zv := zv.later b
  have zw := zw.later b
  have Kx := Kx.later b
  have zx := zx.later b
  have B7' := below_seq B7 b
  have S3 := below_seq S3 b
  obtain ⟨pzb0, pzb1, _⟩ := zb.cells
  obtain ⟨pzc0, pzc1, _⟩ := zc.cells
  obtain ⟨pzd0, pzd1, _⟩ := zd.cells
  obtain ⟨pzv0, pzv1, pzv2, pzv3, pzv4, pfzv⟩ := zv.cells
  obtain ⟨pzw0, pzw1, pzw2, pzw3, pzw4, pfzw⟩ := zw.cells
  obtain ⟨pzx0, pzx1, _⟩ := zx.cells
  clear b
  go_wp2_with fail
  have B7 := B7'
  have hky : Hid (gzv < w7.heap.size) := ⟨zv.lt⟩
  have B8 := B7
  with_reducible refine Calls.mono (fRem3 w7 _ _ Kx.li3) ?_
  rintro e w8 ⟨ay, ny, rfl, Ky, b⟩
  dsimp only
  clear pzb0 pzb1 pzc0 pzc1 pzd0 pzd1 pzv0 pzv1 pzv2 pzv3 pzv4 pfzv pzw0 pzw1 pzw2 pzw3 pzw4 pfzw pzx0 pzx1
  have zb := zb.later b
  have Lc := Lc.later b
  have zc := zc.later b
  have Ld := Ld.later b
  have zd := zd.later b
  have zv := zv.later b
  have zw := zw.later b
  have Kx := Kx.later b
  have zx := zx.later b
  have B8' := below_seq B8 b
  have S3 := below_seq S3 b
  have ne_zb_zy : Hid (gzb < w8.heap.size) := ⟨zb.lt⟩
  have ne_zc_zy : Hid (gzc < w8.heap.size) := ⟨zc.lt⟩
  have ne_zd_zy : Hid (gzd < w8.heap.size) := ⟨zd.lt⟩
  have ne_zv_zy : Hid (gzv < w8.heap.size) := ⟨zv.lt⟩
  have ne_zw_zy : Hid (gzw < w8.heap.size) := ⟨zw.lt⟩
  have ne_zx_zy : Hid (gzx < w8.heap.size) := ⟨zx.lt⟩
  have le_zy : Hid (W3.heap.size ≤ w8.heap.size) := ⟨S3.size⟩
  have bx := (Below.refl w8.heap.size w8).alloc (Nat.le_refl _) (.cells #[.int .i64 4, .slice ay 2 ny] 26)
  have zy := Bq.new w8 (.int .i64 4) (.slice ay 2 ny)
  have zb := zb.later bx
  have Lc := Lc.later bx
  have zc := zc.later bx
  have Ld := Ld.later bx
  have zd := zd.later bx
  have zv := zv.later bx
  have zw := zw.later bx
  have Kx := Kx.later bx
  have zx := zx.later bx
  have Ky := Ky.later bx
  have B8' := below_seq B8' bx
  have S3 := below_seq S3 bx
  obtain ⟨pzb0, pzb1, _⟩ := zb.cells
  obtain ⟨pzc0, pzc1, _⟩ := zc.cells
  obtain ⟨pzd0, pzd1, _⟩ := zd.cells
  obtain ⟨pzv0, pzv1, pzv2, pzv3, pzv4, pfzv⟩ := zv.cells
  obtain ⟨pzw0, pzw1, pzw2, pzw3, pzw4, pfzw⟩ := zw.cells
  obtain ⟨pzx0, pzx1, _⟩ := zx.cells
  obtain ⟨pzy0, pzy1, _⟩ := zy.cells
  clear b bx
  go_wp2_with fail
  have hz8 : Hid ((w8.alloc (.cells #[.int .i64 4, .slice ay 2 ny] 26)).heap.size = w8.heap.size + 1) := ⟨by simp⟩
  generalize hW8 : (w8.alloc (.cells #[.int .i64 4, .slice ay 2 ny] 26)) = W8 at *
  clear hW8
  generalize w8.heap.size = gzy at *
  have B8 := B8'
  with_reducible refine Calls.mono (fGet2 W8 _ _ _ Ky.li2) ?_
  rintro e w9 ⟨⟨av', nv', rfl⟩, b⟩
  dsimp only
  clear pzb0 pzb1 pzc0 pzc1 pzd0 pzd1 pzv0 pzv1 pzv2 pzv3 pzv4 pfzv pzw0 pzw1 pzw2 pzw3 pzw4 pfzw pzx0 pzx1 pzy0 pzy1
  have zb := zb.later b
  have Lc := Lc.later b
  have zc := zc.later b
  have Ld := Ld.later b
  have zd := zd.later b
  have zv := zv.later b
  have zw := zw.later b
  have Kx := Kx.later b
  have zx := zx.later b
  have Ky := Ky.later b
  have zy := zy.later b
  have S3 := below_seq S3 b
  have B9 := below_seq B8 b
  obtain ⟨q0, q1, q2, q3, q4, qf⟩ := zv.cells
  have qf0 := qf 0
  have qf1 := qf 1
  have qf2 := qf 2
  have qf3 := qf 3
  have qf4 := qf 4
  have zb' := zb.s5 (R := gzv) (Nat.ne_of_lt ne_zb_zv.out) (str [107]) (.int .i64 2) (.bool false) (str [116, 119, 111]) (.slice av' 1 nv')
  have zc' := zc.s5 (R := gzv) (Nat.ne_of_lt ne_zc_zv.out) (str [107]) (.int .i64 2) (.bool false) (str [116, 119, 111]) (.slice av' 1 nv')
  have zx' := zx.s5 (R := gzv) (Nat.ne_of_gt ne_zv_zx.out) (str [107]) (.int .i64 2) (.bool false) (str [116, 119, 111]) (.slice av' 1 nv')
  have zy' := zy.s5 (R := gzv) (Nat.ne_of_gt ne_zv_zy.out) (str [107]) (.int .i64 2) (.bool false) (str [116, 119, 111]) (.slice av' 1 nv')
  have Kx' := Kx.s5 (R := gzv) hkx.out (str [107]) (.int .i64 2) (.bool false) (str [116, 119, 111]) (.slice av' 1 nv')
  have Ky' := Ky.s5 (R := gzv) hky.out (str [107]) (.int .i64 2) (.bool false) (str [116, 119, 111]) (.slice av' 1 nv')
  have zv' := zv.s5 (str [107]) (.int .i64 2) (.bool false) (str [116, 119, 111]) (.slice av' 1 nv')
  have S3' := Below.s5 S3 (R := gzv) le_zv.out (str [107]) (.int .i64 2) (.bool false) (str [116, 119, 111]) (.slice av' 1 nv')
  have Lc' := Lc3.out.later S3'
  have B9' := Below.s5 B9 (R := gzv) (Nat.le_trans B3.size le_zv.out) (str [107]) (.int .i64 2) (.bool false) (str [116, 119, 111]) (.slice av' 1 nv')
  obtain ⟨pzb0, pzb1, _⟩ := zb.cells
  obtain ⟨pzc0, pzc1, _⟩ := zc.cells
  obtain ⟨pzx0, pzx1, _⟩ := zx.cells
  obtain ⟨pzy0, pzy1, _⟩ := zy.cells
  have nv_zb : ¬ gzb = gzv := Nat.ne_of_lt ne_zb_zv.out
  have nw_zb : ¬ gzv = gzb := Nat.ne_of_gt ne_zb_zv.out
  have nv_zc : ¬ gzc = gzv := Nat.ne_of_lt ne_zc_zv.out
  have nw_zc : ¬ gzv = gzc := Nat.ne_of_gt ne_zc_zv.out
  have nv_zx : ¬ gzx = gzv := Nat.ne_of_gt ne_zv_zx.out
  have nw_zx : ¬ gzv = gzx := Nat.ne_of_lt ne_zv_zx.out
  have nv_zy : ¬ gzy = gzv := Nat.ne_of_gt ne_zv_zy.out
  have nw_zy : ¬ gzv = gzy := Nat.ne_of_lt ne_zv_zy.out
  clear b qf S3 S3' Lc3 zb zc zd zv zw zx zy Lc Ld Kx Ky B9
  go_wp2_with fail
  rw [s5_eq]
  clear q0 q1 q2 q3 q4 qf0 qf1 qf2 qf3 qf4 pzb0 pzb1 pzc0 pzc1 pzx0 pzx1 pzy0 pzy1 nv_zb nw_zb nv_zc nw_zc nv_zx nw_zx nv_zy nw_zy
  change Calls _ _ _ (s5 w9 gzv (str [107]) (.int .i64 2) (.bool false) (str [116, 119, 111]) (.slice av' 1 nv')) _
  generalize s5 w9 gzv (str [107]) (.int .i64 2) (.bool false) (str [116, 119, 111]) (.slice av' 1 nv') = W9 at *
  with_reducible refine Calls.mono (fRem9 W9 _ _ Kx'.li3) ?_
  rintro e w10 ⟨⟨_, a10, n10, c10, rfl, rfl⟩, b⟩
  dsimp only
  have zb := zb'.later b
  have zc := zc'.later b
  have zx := zx'.later b
  have zy := zy'.later b
  have zv := zv'.later b
  have Kx := Kx'.later b
  have Ky := Ky'.later b
  have Lc := Lc'.later b
  have B10 := below_seq B9' b
  clear zb' zc' zx' zy' zv' Kx' Ky' Lc' B9' b
  have bx := (Below.refl w10.heap.size w10).alloc (Nat.le_refl _) (.cells #[.int .i64 0, .slice a10 n10 c10] 26)
  have zb := zb.later bx
  have zc := zc.later bx
  have zx := zx.later bx
  have zy := zy.later bx
  have zv := zv.later bx
  have Kx := Kx.later bx
  have Ky := Ky.later bx
  have Lc := Lc.later bx
  have B10' := below_seq B10 bx
  clear bx B10
  obtain ⟨pzb0, pzb1, _⟩ := zb.cells
  obtain ⟨pzc0, pzc1, _⟩ := zc.cells
  obtain ⟨pzx0, pzx1, _⟩ := zx.cells
  obtain ⟨pzy0, pzy1, _⟩ := zy.cells
  obtain ⟨q0, q1, q2, q3, q4, _⟩ := zv.cells
  go_wp2_with fail
  generalize w10.alloc (.cells #[.int .i64 0, .slice a10 n10 c10] 26) = W10 at *
  with_reducible refine Calls.mono (fPut0 W10) ?_
  rintro e w11 ⟨_, rfl, ⟨a11, n11, c11, rfl⟩, b⟩
  dsimp only
  clear pzb0 pzb1 pzc0 pzc1 pzx0 pzx1 pzy0 pzy1 q0 q1 q2 q3 q4
  have zb := zb.later b
  have zc := zc.later b
  have zx := zx.later b
  have zy := zy.later b
  have zv := zv.later b
  have Kx := Kx.later b
  have Ky := Ky.later b
  have Lc := Lc.later b
  have bx := (Below.refl w11.heap.size w11).alloc (Nat.le_refl _) (.cells #[.int .i64 0, .slice a11 n11 c11] 26)
  have zb := zb.later bx
  have zc := zc.later bx
  have zx := zx.later bx
  have zy := zy.later bx
  have zv := zv.later bx
  have Kx := Kx.later bx
  have Ky := Ky.later bx
  have Lc := Lc.later bx
  have B11 := below_seq (below_seq B10' b) bx
  clear bx b B10'
  obtain ⟨pzb0, pzb1, _⟩ := zb.cells
  obtain ⟨pzc0, pzc1, _⟩ := zc.cells
  obtain ⟨pzx0, pzx1, _⟩ := zx.cells
  obtain ⟨pzy0, pzy1, _⟩ := zy.cells
  obtain ⟨q0, q1, q2, q3, q4, _⟩ := zv.cells
  go_wp2_with fail
  generalize w11.alloc (.cells #[.int .i64 0, .slice a11 n11 c11] 26) = W11 at *
  with_reducible refine Calls.mono (fRt3 W11 _ _ Kx.li3) ?_
  rintro e w12 ⟨rfl, b⟩
  dsimp only
  clear pzb0 pzb1 pzc0 pzc1 pzx0 pzx1 pzy0 pzy1 q0 q1 q2 q3 q4
  have zb := zb.later b
  have zc := zc.later b
  have zx := zx.later b
  have zy := zy.later b
  have zv := zv.later b
  have Kx := Kx.later b
  have Ky := Ky.later b
  have Lc := Lc.later b
  have B12 := below_seq B11 b
  clear b
  obtain ⟨pzb0, pzb1, _⟩ := zb.cells
  obtain ⟨pzc0, pzc1, _⟩ := zc.cells
  obtain ⟨pzx0, pzx1, _⟩ := zx.cells
  obtain ⟨pzy0, pzy1, _⟩ := zy.cells
  obtain ⟨q0, q1, q2, q3, q4, _⟩ := zv.cells
  go_wp2_with fail
  with_reducible refine Calls.mono (fRt0 w12) ?_
  rintro e w13 ⟨rfl, b⟩
  dsimp only
  clear pzb0 pzb1 pzc0 pzc1 pzx0 pzx1 pzy0 pzy1 q0 q1 q2 q3 q4
  have zb := zb.later b
  have zc := zc.later b
  have zx := zx.later b
  have zy := zy.later b
  have zv := zv.later b
  have Kx := Kx.later b
  have Ky := Ky.later b
  have Lc := Lc.later b
  have B13 := below_seq B12 b
  clear b
  obtain ⟨pzb0, pzb1, _⟩ := zb.cells
  obtain ⟨pzc0, pzc1, _⟩ := zc.cells
  obtain ⟨pzx0, pzx1, _⟩ := zx.cells
  obtain ⟨pzy0, pzy1, _⟩ := zy.cells
  obtain ⟨q0, q1, q2, q3, q4, _⟩ := zv.cells
  go_wp2_with fail
  with_reducible refine Calls.mono (fLst w13 _ _ Ky.li2) ?_
  rintro e w14 ⟨⟨al, cl, rfl⟩, b⟩
  dsimp only
  clear pzb0 pzb1 pzc0 pzc1 pzx0 pzx1 pzy0 pzy1 q0 q1 q2 q3 q4
  have zb := zb.later b
  have zc := zc.later b
  have zx := zx.later b
  have zy := zy.later b
  have zv := zv.later b
  have Kx := Kx.later b
  have Ky := Ky.later b
  have Lc := Lc.later b
  have B14 := below_seq B13 b
  clear b
  obtain ⟨pzb0, pzb1, _⟩ := zb.cells
  obtain ⟨pzc0, pzc1, _⟩ := zc.cells
  obtain ⟨pzx0, pzx1, _⟩ := zx.cells
  obtain ⟨pzy0, pzy1, _⟩ := zy.cells
  obtain ⟨q0, q1, q2, q3, q4, _⟩ := zv.cells
  go_wp2_with fail
  with_reducible refine Calls.mono (fVer w14 _ _ Kx.li3) ?_
  rintro e w15 ⟨⟨ar, cr, rfl⟩, b⟩
  dsimp only
  clear pzb0 pzb1 pzc0 pzc1 pzx0 pzx1 pzy0 pzy1 q0 q1 q2 q3 q4
  have zb := zb.later b
  have zc := zc.later b
  have zx := zx.later b
  have zy := zy.later b
  have zv := zv.later b
  have Kx := Kx.later b
  have Ky := Ky.later b
  have Lc := Lc.later b
  have B15 := below_seq B14 b
  clear b
  obtain ⟨pzb0, pzb1, _⟩ := zb.cells
  obtain ⟨pzc0, pzc1, _⟩ := zc.cells
  obtain ⟨pzx0, pzx1, _⟩ := zx.cells
  obtain ⟨pzy0, pzy1, _⟩ := zy.cells
  obtain ⟨q0, q1, q2, q3, q4, _⟩ := zv.cells
  go_wp2_with fail
  with_reducible refine Calls.mono (fByt w15 _ _ Lc) ?_
  rintro e w16 ⟨rfl, b⟩
  dsimp only
  clear pzb0 pzb1 pzc0 pzc1 pzx0 pzx1 pzy0 pzy1 q0 q1 q2 q3 q4
  have zb := zb.later b
  have zc := zc.later b
  have zx := zx.later b
  have zy := zy.later b
  have zv := zv.later b
  have Kx := Kx.later b
  have Ky := Ky.later b
  have Lc := Lc.later b
  have B16 := below_seq B15 b
  clear b
  obtain ⟨pzb0, pzb1, _⟩ := zb.cells
  obtain ⟨pzc0, pzc1, _⟩ := zc.cells
  obtain ⟨pzx0, pzx1, _⟩ := zx.cells
  obtain ⟨pzy0, pzy1, _⟩ := zy.cells
  obtain ⟨q0, q1, q2, q3, q4, _⟩ := zv.cells
  go_wp2_with fail
  go_ret
  exact ⟨rfl, B16⟩
end Go.Proofs.Ytnnhkpnjmfoenaa
