/- VersionRight: the walk. -/
import Derived.Test.YtahdndmmakdamaaRgm
namespace Go.Proofs.Ytahdndmmakdamaa
set_option linter.unusedVariables false
set_option linter.unusedSimpArgs false
open Go.RowKit
attribute [local go_sem ↓] Go.wp_at_zero Go.wp_at_succ
attribute [local go_sem ↓] sl9 ix9 ad9
set_option maxRecDepth 100000 in
set_option maxHeartbeats 8000000 in
theorem versionRight_walk (key data : List UInt8) (seq : Int) (marker : Bool) (turn : Int) (W : World) (hk : key.length ≤ 140737488351232) (hd : data.length ≤ 140737488351232) (hs1 : -9223372036854775808 ≤ seq) (hs2 : seq ≤ 9223372036854775807) (ht1 : -9223372036854775808 ≤ turn) (ht2 : turn ≤ 9223372036854775807) :
    Calls Try.prog 4 #[str key, str data, .int .i64 seq, .bool marker, .int .i64 turn] W fun e W' => e = .returned (.bool true) ∧ Below W.heap.size W W' := by
  obtain ⟨S, hS, hand⟩ := and40 hs1 hs2
  obtain ⟨T, hT, hand7⟩ := and7 ht1 ht2
  go_enter Try.func4, Try.ntmps4
  go_wp2_with fail
  with_reducible refine Calls.mono (first_any _) ?_
  rintro e w1 ⟨rfl, B1⟩
  dsimp only
  go_upto_if 20 with fail
  go_cut [0] (fun k wx => ∃ K : List UInt8, k = str K ∧ K.length ≤ 31 ∧ wx = w1)
  case first =>
    by_cases h3 : 31 < key.length
    · have hd : decide ((31 : Int) < (key.length : Int)) = true := decide_eq_true (by omega)
      have s1 : ∀ w, (slS (str key) none (some (.int .i64 31)) none).run Try.prog w = .ok (str (key.take 31)) w := fun w => run_hi key 31 (by omega) (by omega) w
      go_wp2_with fail
      go_meet
      exact ⟨_, rfl, by rw [List.length_take]; omega, rfl⟩
    · have hd : decide ((31 : Int) < (key.length : Int)) = false := decide_eq_false (by omega)
      go_wp2_with fail
      go_meet
      exact ⟨_, rfl, by omega, rfl⟩
  case rest =>
    obtain ⟨K, rfl, hK, rfl⟩ := hcut
    go_upto_if 25 with fail
    go_cut [1] (fun k wx => ∃ D : List UInt8, k = str D ∧ D.length ≤ 1024 ∧ wx = wc)
    case first =>
      by_cases h3 : 1024 < data.length
      · have hd : decide ((1024 : Int) < (data.length : Int)) = true := decide_eq_true (by omega)
        have s1 : ∀ w, (slS (str data) none (some (.int .i64 1024)) none).run Try.prog w = .ok (str (data.take 1024)) w := fun w => run_hi data 1024 (by omega) (by omega) w
        go_wp2_with fail
        go_meet
        exact ⟨_, rfl, by rw [List.length_take]; omega, rfl⟩
      · have hd : decide ((1024 : Int) < (data.length : Int)) = false := decide_eq_false (by omega)
        go_wp2_with fail
        go_meet
        exact ⟨_, rfl, by omega, rfl⟩
    case rest =>
      obtain ⟨D, rfl, hD, rfl⟩ := hcut
      have had : ∀ w, (adS (str K) (.string ⟨#[107]⟩)).run Try.prog w = .ok (str (K ++ [107])) w := fun w => run_ad K [107] (by simp; omega) w
      go_upto_if 38 with fail
      have hWc := B1.size
      have oL : Ow wc.heap.size ((wc.alloc (.cells #[.string ⟨#[97]⟩, .string ⟨#[49]⟩, .string ⟨#[98]⟩, .string ⟨#[]⟩] 34)).alloc (.cells #[str (K ++ [107]), .int .i64 (1 + (S : Int)), .bool false, str D, .slice (some ⟨wc.heap.size, 0, none⟩) 2 2] 24)) (.slice (some ⟨wc.heap.size, 0, none⟩) 2 2) abL := by
        have : Ow wc.heap.size (wc.alloc (.cells #[.string ⟨#[97]⟩, .string ⟨#[49]⟩, .string ⟨#[98]⟩, .string ⟨#[]⟩] 34)) (.slice (some ⟨wc.heap.size, 0, none⟩) 2 2) abL := ⟨⟨rfl, Or.inr ⟨wc.heap.size, 2, _, rfl, Nat.le_refl _, heap_alloc_new _ _, Nat.le_refl _, by decide, rfl, rfl⟩⟩, by simp⟩
        exact this.alloc _
      have vL : Bv ((wc.alloc (.cells #[.string ⟨#[97]⟩, .string ⟨#[49]⟩, .string ⟨#[98]⟩, .string ⟨#[]⟩] 34)).alloc (.cells #[str (K ++ [107]), .int .i64 (1 + (S : Int)), .bool false, str D, .slice (some ⟨wc.heap.size, 0, none⟩) 2 2] 24)) (wc.heap.size + 1) (str (K ++ [107])) (.int .i64 (1 + (S : Int))) (.bool false) (str D) (.slice (some ⟨wc.heap.size, 0, none⟩) 2 2) := by
        have := Bv.new (wc.alloc (.cells #[.string ⟨#[97]⟩, .string ⟨#[49]⟩, .string ⟨#[98]⟩, .string ⟨#[]⟩] 34)) (str (K ++ [107])) (.int .i64 (1 + (S : Int))) (.bool false) (str D) (.slice (some ⟨wc.heap.size, 0, none⟩) 2 2)
        rw [World.size_alloc] at this
        exact this
      have BL : Below W.heap.size W ((wc.alloc (.cells #[.string ⟨#[97]⟩, .string ⟨#[49]⟩, .string ⟨#[98]⟩, .string ⟨#[]⟩] 34)).alloc (.cells #[str (K ++ [107]), .int .i64 (1 + (S : Int)), .bool false, str D, .slice (some ⟨wc.heap.size, 0, none⟩) 2 2] 24)) := (B1.alloc B1.size _).alloc (by simp; omega) _
      obtain ⟨gv, hgv⟩ : ∃ gv, gv = wc.heap.size + 1 := ⟨_, rfl⟩
      rw [← hgv] at vL ⊢
      generalize hW2 : (wc.alloc (.cells #[.string ⟨#[97]⟩, .string ⟨#[49]⟩, .string ⟨#[98]⟩, .string ⟨#[]⟩] 34)).alloc (.cells #[str (K ++ [107]), .int .i64 (1 + (S : Int)), .bool false, str D, .slice (some ⟨wc.heap.size, 0, none⟩) 2 2] 24) = W2 at *
      obtain ⟨C0, hC0⟩ : ∃ C0, C0 = wc.heap.size := ⟨_, rfl⟩
      rw [← hC0] at oL vL hgv hWc ⊢
      have hgv8 : C0 < gv := by omega
      clear hW2 hC0 had hd hk B1 hgv
      go_cut [11] (fun p wx => p = .pointer (some ⟨gv, 0, none⟩) ∧ ∃ D2 L2 a2 n2 c2, Bv wx gv (str (K ++ [107])) (.int .i64 (1 + (S : Int))) (.bool marker) (str D2) (.slice a2 n2 c2) ∧ L2.length = n2 ∧ Ow C0 wx (.slice a2 n2 c2) L2 ∧ Below W.heap.size W wx ∧ D2.length ≤ 1024 ∧ (marker = true → D2 = [] ∧ L2 = []) ∧ mtE L2 = 0 ∧ n2 ≤ 2 ∧ (Value.slice a2 n2 c2).ownBlock ≠ some gv)
      case first =>
        cases marker with
        | false =>
          go_wp2_with fail
          go_meet
          exact ⟨rfl, D, abL, _, _, _, vL, rfl, oL, BL, hD, (fun h => by cases h), mtE_abL, by omega, by show some C0 ≠ some gv; intro h; injection h with h; omega⟩
        | true =>
          obtain ⟨x0, x1, x2, x3, x4, xf⟩ := vL.cells
          have f0 := xf 0
          have f1 := xf 1
          have f2 := xf 2
          have f3 := xf 3
          have f4 := xf 4
          clear xf
          have v3 := vL.s5 (str (K ++ [107])) (.int .i64 (1 + (S : Int))) (.bool true) (.string ⟨#[]⟩) (.slice none 0 0)
          have B3 := Below.s5 BL (R := gv) (by omega) (str (K ++ [107])) (.int .i64 (1 + (S : Int))) (.bool true) (.string ⟨#[]⟩) (.slice none 0 0)
          have l3 := oL.le
          go_wp2_with fail
          rw [s5_eq]
          go_meet
          exact ⟨rfl, [], [], none, 0, 0, v3, rfl, Ow.nil _ _ (by unfold s5; simp; exact l3), B3, by simp, fun _ => ⟨rfl, rfl⟩, mtE_nil, by omega, by intro h; cases h⟩
      case rest =>
        obtain ⟨rfl, D2, L2, a2, n2, c2, v3, hn2, o3, B3, hD2, hmk2, hmt, hn3, hgo⟩ := hcut
        have hok : rtE ⟨K ++ [107], 1 + (S : Int), marker, D2, L2⟩ = 0 := rtE_ok (by omega) (by simp; omega) hD2 hmk2 hmt
        have hw3 := write_some hok wc a2 n2 c2 hn2 o3.asSl.at'
        simp only at hw3
        obtain ⟨x0, x1, x2, x3, x4, _⟩ := v3.cells
        clear oL vL BL hD hmt hok
        generalize enc ⟨K ++ [107], 1 + (S : Int), marker, D2, L2⟩ = EN at *
        go_wp2_with fail
        with_reducible refine Calls.mono hw3 ?_
        rintro e w4 ⟨rfl, b4⟩
        dsimp only
        have v4 := v3.later b4
        have o4 := o3.later b4
        have B4 := B3.trans (b4.mono B3.size)
        have hgW : W.heap.size ≤ gv := by omega
        have hgv4 : gv < w4.heap.size := v4.lt
        have hW0 : W.heap.size ≤ C0 := by omega
        clear hw3 b4 v3 o3 B3 x0 x1 x2 x3 x4
        rcases (by omega : T = 0 ∨ T = 1 ∨ T = 2 ∨ T = 3 ∨ T = 4 ∨ T = 5 ∨ T = 6 ∨ T = 7) with hTe | hTe | hTe | hTe | hTe | hTe | hTe | hTe
        · skip
          subst hTe
          obtain ⟨_, _, _, _, p4, vf⟩ := v4.cells
          have f0 := vf 0
          have f1 := vf 1
          have f2 := vf 2
          have f3 := vf 3
          have f4 := vf 4
          clear vf
          have xa_0 := v4.set1 (.int .i64 0)
          have Ya_0 := B4.setCell (p := ⟨gv, 1, none⟩) hgW (.int .i64 0)
          have Oa_0 := o4.other (g := gv) (j := 1) hgo (.int .i64 0)
          have xa_1 := xa_0.set0 (.string ⟨#[]⟩)
          have Ya_1 := Ya_0.setCell (p := ⟨gv, 0, none⟩) hgW (.string ⟨#[]⟩)
          have Oa_1 := Oa_0.other (g := gv) (j := 0) hgo (.string ⟨#[]⟩)
          have hwe := write_none (v := ⟨[], 0, marker, D2, L2⟩) (by rw [rtE_seq (.inl (by omega))]; decide) ((w4.setCell ⟨gv, 1, none⟩ (.int .i64 0)).setCell ⟨gv, 0, none⟩ (.string ⟨#[]⟩)) a2 n2 c2 hn2 Oa_1.asSl.at' (by simp [aaL] <;> omega)
          rw [rtE_seq (.inl (by omega))] at hwe
          simp only at hwe
          have BE := Ya_1
          obtain ⟨q0, q1, q2, q3, q4, _⟩ := xa_1.cells
          go_wp2_with fail
          with_reducible refine Calls.mono hwe ?_
          rintro e we ⟨rfl, be⟩
          dsimp only
          go_wp2_with fail
          go_ret
          exact ⟨rfl, BE.trans (be.mono BE.size)⟩
        · skip
          subst hTe
          obtain ⟨_, _, _, _, p4, vf⟩ := v4.cells
          have f0 := vf 0
          have f1 := vf 1
          have f2 := vf 2
          have f3 := vf 3
          have f4 := vf 4
          clear vf
          have xa_0 := v4.set1 (.int .i64 1099511627777)
          have Ya_0 := B4.setCell (p := ⟨gv, 1, none⟩) hgW (.int .i64 1099511627777)
          have Oa_0 := o4.other (g := gv) (j := 1) hgo (.int .i64 1099511627777)
          obtain ⟨w5, hmk, hcv, b5⟩ := made_1025 (w4.setCell ⟨gv, 1, none⟩ (.int .i64 1099511627777))
          rw [World.size_setCell] at hmk hcv
          have v5 := xa_0.later b5
          have B5 := Ya_0.trans (b5.mono Ya_0.size)
          have o5 := Oa_0.later b5
          obtain ⟨_, _, _, _, _, vg⟩ := v5.cells
          have g3 := vg 3
          clear vg
          generalize hRR : List.replicate 1025 (0 : UInt8) = RR at *
          have xb_0 := v5.set3 (str RR)
          have Yb_0 := B5.setCell (p := ⟨gv, 3, none⟩) hgW (str RR)
          have Ob_0 := o5.other (g := gv) (j := 3) hgo (str RR)
          have hwe := write_none (v := ⟨(K ++ [107]), 1099511627777, marker, RR, L2⟩) (by rw [rtE_seq (.inr (by omega))]; decide) (w5.setCell ⟨gv, 3, none⟩ (str RR)) a2 n2 c2 hn2 Ob_0.asSl.at' (by simp [aaL] <;> omega)
          rw [rtE_seq (.inr (by omega))] at hwe
          simp only at hwe
          have BE := Yb_0
          obtain ⟨q0, q1, q2, q3, q4, _⟩ := xb_0.cells
          clear hRR
          go_wp2_with fail
          with_reducible refine Calls.mono hwe ?_
          rintro e we ⟨rfl, be⟩
          dsimp only
          go_wp2_with fail
          go_ret
          exact ⟨rfl, BE.trans (be.mono BE.size)⟩
        · skip
          subst hTe
          obtain ⟨_, _, _, _, p4, vf⟩ := v4.cells
          have f0 := vf 0
          have f1 := vf 1
          have f2 := vf 2
          have f3 := vf 3
          have f4 := vf 4
          clear vf
          have xa_0 := v4.set0 (.string ⟨#[]⟩)
          have Ya_0 := B4.setCell (p := ⟨gv, 0, none⟩) hgW (.string ⟨#[]⟩)
          have Oa_0 := o4.other (g := gv) (j := 0) hgo (.string ⟨#[]⟩)
          obtain ⟨w5, hmk, hcv, b5⟩ := made_1025 (w4.setCell ⟨gv, 0, none⟩ (.string ⟨#[]⟩))
          rw [World.size_setCell] at hmk hcv
          have v5 := xa_0.later b5
          have B5 := Ya_0.trans (b5.mono Ya_0.size)
          have o5 := Oa_0.later b5
          obtain ⟨_, _, _, _, _, vg⟩ := v5.cells
          have g3 := vg 3
          clear vg
          generalize hRR : List.replicate 1025 (0 : UInt8) = RR at *
          have xb_0 := v5.set3 (str RR)
          have Yb_0 := B5.setCell (p := ⟨gv, 3, none⟩) hgW (str RR)
          have Ob_0 := o5.other (g := gv) (j := 3) hgo (str RR)
          have hwe := write_none (v := ⟨[], (1 + (S : Int)), marker, RR, L2⟩) (by rw [rtE_key (by omega) (by simp)]; decide) (w5.setCell ⟨gv, 3, none⟩ (str RR)) a2 n2 c2 hn2 Ob_0.asSl.at' (by simp [aaL] <;> omega)
          rw [rtE_key (by omega) (by simp)] at hwe
          simp only at hwe
          have BE := Yb_0
          obtain ⟨q0, q1, q2, q3, q4, _⟩ := xb_0.cells
          clear hRR
          go_wp2_with fail
          with_reducible refine Calls.mono hwe ?_
          rintro e we ⟨rfl, be⟩
          dsimp only
          go_wp2_with fail
          go_ret
          exact ⟨rfl, BE.trans (be.mono BE.size)⟩
        · skip
          subst hTe
          obtain ⟨_, _, _, _, p4, vf⟩ := v4.cells
          have f0 := vf 0
          have f1 := vf 1
          have f2 := vf 2
          have f3 := vf 3
          have f4 := vf 4
          clear vf
          obtain ⟨w5, hmk, hcv, b5⟩ := made_65 w4
          have v5 := v4.later b5
          have B5 := B4.trans (b5.mono B4.size)
          have o5 := o4.later b5
          obtain ⟨_, _, _, _, _, vg⟩ := v5.cells
          have g0 := vg 0
          clear vg
          generalize hRR : List.replicate 65 (0 : UInt8) = RR at *
          have xb_0 := v5.set0 (str RR)
          have Yb_0 := B5.setCell (p := ⟨gv, 0, none⟩) hgW (str RR)
          have Ob_0 := o5.other (g := gv) (j := 0) hgo (str RR)
          have hwe := write_none (v := ⟨RR, (1 + (S : Int)), marker, D2, L2⟩) (by rw [rtE_key (by omega) (by rw [← hRR, List.length_replicate]; omega)]; decide) (w5.setCell ⟨gv, 0, none⟩ (str RR)) a2 n2 c2 hn2 Ob_0.asSl.at' (by simp [aaL] <;> omega)
          rw [rtE_key (by omega) (by rw [← hRR, List.length_replicate]; omega)] at hwe
          simp only at hwe
          have BE := Yb_0
          obtain ⟨q0, q1, q2, q3, q4, _⟩ := xb_0.cells
          clear hRR
          go_wp2_with fail
          with_reducible refine Calls.mono hwe ?_
          rintro e we ⟨rfl, be⟩
          dsimp only
          go_wp2_with fail
          go_ret
          exact ⟨rfl, BE.trans (be.mono BE.size)⟩
        · skip
          subst hTe
          obtain ⟨_, _, _, _, p4, vf⟩ := v4.cells
          have f0 := vf 0
          have f1 := vf 1
          have f2 := vf 2
          have f3 := vf 3
          have f4 := vf 4
          clear vf
          obtain ⟨w5, hmk, hcv, b5⟩ := made_1025 w4
          have v5 := v4.later b5
          have B5 := B4.trans (b5.mono B4.size)
          have o5 := o4.later b5
          obtain ⟨_, _, _, _, _, vg⟩ := v5.cells
          have g3 := vg 3
          clear vg
          generalize hRR : List.replicate 1025 (0 : UInt8) = RR at *
          have v6 := v5.set3 (str RR)
          have B6 := B5.setCell (p := ⟨gv, 3, none⟩) hgW (str RR)
          have o6 := o5.other (g := gv) (j := 3) hgo (str RR)
          have HRR := Hid.mk hRR
          clear hRR
          obtain ⟨_, _, _, _, z4, _⟩ := v6.cells
          have hl8 : (L2 ++ aaL).length = L2.length + aaL.length := List.length_append
          have hnl := hn2
          subst hn2
          go_wp2_with (refine app_newK rfl _ _ rfl aaL rfl o6 (by simp) rfl (by decide) (by simp [aaL]; omega) rfl rfl ?_; intro g8 c8 w8 o8 b8 k8; have v8' : Bv w8 gv _ _ _ _ _ := ((k8 gv v6.lt hgo).1).trans v6; obtain ⟨_, _, _, _, _, vh⟩ := v8'.cells; have h4 := vh 4; have v9 := v8'.set4 (.slice (some ⟨g8, 0, none⟩) (L2.length + aaL.length) c8); obtain ⟨q0, q1, q2, q3, q4, _⟩ := v9.cells; clear vh)
          have B8 := B6.trans (b8.mono hW0)
          have B9 := B8.setCell (p := ⟨gv, 4, none⟩) hgW (.slice (some ⟨g8, 0, none⟩) (L2.length + aaL.length) c8)
          have hgo8 := (k8 gv v6.lt hgo).2
          have o9 := o8.other (g := gv) (j := 4) hgo8 (.slice (some ⟨g8, 0, none⟩) (L2.length + aaL.length) c8)
          have hwe := write_none (v := ⟨(K ++ [107]), (1 + (S : Int)), marker, RR, L2 ++ aaL⟩) (by rw [rtE_data (by omega) (by simp; omega) (.inr (by rw [← HRR.out, List.length_replicate]; omega))]; decide) _ (some ⟨g8, 0, none⟩) (L2.length + aaL.length) c8 hl8 o9.asSl.at' (by simp [aaL] <;> omega)
          rw [rtE_data (by omega) (by simp; omega) (.inr (by rw [← HRR.out, List.length_replicate]; omega))] at hwe
          simp only at hwe
          have BE := B9
          with_reducible refine Calls.mono hwe ?_
          rintro e we ⟨rfl, be⟩
          dsimp only
          go_wp2_with fail
          go_ret
          exact ⟨rfl, BE.trans (be.mono BE.size)⟩
        · skip
          subst hTe
          obtain ⟨_, _, _, _, p4, vf⟩ := v4.cells
          have f0 := vf 0
          have f1 := vf 1
          have f2 := vf 2
          have f3 := vf 3
          have f4 := vf 4
          clear vf
          have v6 := v4
          have B6 := B4
          have o6 := o4
          obtain ⟨_, _, _, _, z4, _⟩ := v6.cells
          have hl8 : (L2 ++ aaL).length = L2.length + aaL.length := List.length_append
          have hnl := hn2
          subst hn2
          go_wp2_with (refine app_newK rfl _ _ rfl aaL rfl o6 rfl rfl (by decide) (by simp [aaL]; omega) rfl rfl ?_; intro g8 c8 w8 o8 b8 k8; have v8' : Bv w8 gv _ _ _ _ _ := ((k8 gv v6.lt hgo).1).trans v6; obtain ⟨_, _, _, _, _, vh⟩ := v8'.cells; have h4 := vh 4; have v9 := v8'.set4 (.slice (some ⟨g8, 0, none⟩) (L2.length + aaL.length) c8); obtain ⟨q0, q1, q2, q3, q4, _⟩ := v9.cells; clear vh)
          have B8 := B6.trans (b8.mono hW0)
          have B9 := B8.setCell (p := ⟨gv, 4, none⟩) hgW (.slice (some ⟨g8, 0, none⟩) (L2.length + aaL.length) c8)
          have hgo8 := (k8 gv v6.lt hgo).2
          have o9 := o8.other (g := gv) (j := 4) hgo8 (.slice (some ⟨g8, 0, none⟩) (L2.length + aaL.length) c8)
          have hwe := write_none (v := ⟨(K ++ [107]), (1 + (S : Int)), marker, D2, L2 ++ aaL⟩) (by rw [rtE_meta (by omega) (by simp; omega) hD2 (fun h => (hmk2 h).1) (.inr mtE_aa)]; decide) _ (some ⟨g8, 0, none⟩) (L2.length + aaL.length) c8 hl8 o9.asSl.at' (by simp [aaL] <;> omega)
          rw [rtE_meta (by omega) (by simp; omega) hD2 (fun h => (hmk2 h).1) (.inr mtE_aa)] at hwe
          simp only at hwe
          have BE := B9
          with_reducible refine Calls.mono hwe ?_
          rintro e we ⟨rfl, be⟩
          dsimp only
          go_wp2_with fail
          go_ret
          exact ⟨rfl, BE.trans (be.mono BE.size)⟩
        · skip
          subst hTe
          obtain ⟨_, _, _, _, p4, vf⟩ := v4.cells
          have f0 := vf 0
          have f1 := vf 1
          have f2 := vf 2
          have f3 := vf 3
          have f4 := vf 4
          clear vf
          have xa_0 := v4.set2 (.bool true)
          have Ya_0 := B4.setCell (p := ⟨gv, 2, none⟩) hgW (.bool true)
          have xa_1 := xa_0.set3 (.string ⟨#[120]⟩)
          have Ya_1 := Ya_0.setCell (p := ⟨gv, 3, none⟩) hgW (.string ⟨#[120]⟩)
          have xa_2 := xa_1.set4 (.slice (some ⟨w4.heap.size, 0, none⟩) 1 1)
          have Ya_2 := Ya_1.setCell (p := ⟨gv, 4, none⟩) hgW (.slice (some ⟨w4.heap.size, 0, none⟩) 1 1)
          have ba := (Below.refl ((((w4.setCell ⟨gv, 2, none⟩ (.bool true)).setCell ⟨gv, 3, none⟩ (.string ⟨#[120]⟩)).setCell ⟨gv, 4, none⟩ (.slice (some ⟨w4.heap.size, 0, none⟩) 1 1))).heap.size (((w4.setCell ⟨gv, 2, none⟩ (.bool true)).setCell ⟨gv, 3, none⟩ (.string ⟨#[120]⟩)).setCell ⟨gv, 4, none⟩ (.slice (some ⟨w4.heap.size, 0, none⟩) 1 1))).alloc (Nat.le_refl _) (.cells #[.string ⟨#[97]⟩, .string ⟨#[]⟩] 34)
          have s8 : Sl (World.alloc (((w4.setCell ⟨gv, 2, none⟩ (.bool true)).setCell ⟨gv, 3, none⟩ (.string ⟨#[120]⟩)).setCell ⟨gv, 4, none⟩ (.slice (some ⟨w4.heap.size, 0, none⟩) 1 1)) (.cells #[.string ⟨#[97]⟩, .string ⟨#[]⟩] 34)) (some ⟨((((w4.setCell ⟨gv, 2, none⟩ (.bool true)).setCell ⟨gv, 3, none⟩ (.string ⟨#[120]⟩)).setCell ⟨gv, 4, none⟩ (.slice (some ⟨w4.heap.size, 0, none⟩) 1 1))).heap.size, 0, none⟩) 1 [⟨[97], []⟩] := sl_new (w := (((w4.setCell ⟨gv, 2, none⟩ (.bool true)).setCell ⟨gv, 3, none⟩ (.string ⟨#[120]⟩)).setCell ⟨gv, 4, none⟩ (.slice (some ⟨w4.heap.size, 0, none⟩) 1 1))) [⟨[97], []⟩] (by decide)
          rw [World.size_setCell, World.size_setCell, World.size_setCell] at s8
          have v8 := xa_2.later ba
          have B8 := Ya_2.trans (ba.mono Ya_2.size)
          obtain ⟨q0, q1, q2, q3, q4, _⟩ := v8.cells
          have hwe := write_none (v := ⟨(K ++ [107]), (1 + (S : Int)), true, [120], [⟨[97], []⟩]⟩) (by rw [rtE_data (by omega) (by simp; omega) (.inl (by simp))]; decide) _ (some ⟨w4.heap.size, 0, none⟩) 1 1 rfl s8.at' (by simp [aaL] <;> omega)
          rw [rtE_data (by omega) (by simp; omega) (.inl (by simp))] at hwe
          simp only at hwe
          have BE := B8
          go_wp2_with fail
          with_reducible refine Calls.mono hwe ?_
          rintro e we ⟨rfl, be⟩
          dsimp only
          go_wp2_with fail
          go_ret
          exact ⟨rfl, BE.trans (be.mono BE.size)⟩
        · skip
          subst hTe
          obtain ⟨_, _, _, _, p4, vf⟩ := v4.cells
          have f0 := vf 0
          have f1 := vf 1
          have f2 := vf 2
          have f3 := vf 3
          have f4 := vf 4
          clear vf
          have xa_0 := v4.set2 (.bool true)
          have Ya_0 := B4.setCell (p := ⟨gv, 2, none⟩) hgW (.bool true)
          have xa_1 := xa_0.set3 (.string ⟨#[]⟩)
          have Ya_1 := Ya_0.setCell (p := ⟨gv, 3, none⟩) hgW (.string ⟨#[]⟩)
          have xa_2 := xa_1.set4 (.slice (some ⟨w4.heap.size, 0, none⟩) 1 1)
          have Ya_2 := Ya_1.setCell (p := ⟨gv, 4, none⟩) hgW (.slice (some ⟨w4.heap.size, 0, none⟩) 1 1)
          have ba := (Below.refl ((((w4.setCell ⟨gv, 2, none⟩ (.bool true)).setCell ⟨gv, 3, none⟩ (.string ⟨#[]⟩)).setCell ⟨gv, 4, none⟩ (.slice (some ⟨w4.heap.size, 0, none⟩) 1 1))).heap.size (((w4.setCell ⟨gv, 2, none⟩ (.bool true)).setCell ⟨gv, 3, none⟩ (.string ⟨#[]⟩)).setCell ⟨gv, 4, none⟩ (.slice (some ⟨w4.heap.size, 0, none⟩) 1 1))).alloc (Nat.le_refl _) (.cells #[.string ⟨#[97]⟩, .string ⟨#[]⟩] 34)
          have s8 : Sl (World.alloc (((w4.setCell ⟨gv, 2, none⟩ (.bool true)).setCell ⟨gv, 3, none⟩ (.string ⟨#[]⟩)).setCell ⟨gv, 4, none⟩ (.slice (some ⟨w4.heap.size, 0, none⟩) 1 1)) (.cells #[.string ⟨#[97]⟩, .string ⟨#[]⟩] 34)) (some ⟨((((w4.setCell ⟨gv, 2, none⟩ (.bool true)).setCell ⟨gv, 3, none⟩ (.string ⟨#[]⟩)).setCell ⟨gv, 4, none⟩ (.slice (some ⟨w4.heap.size, 0, none⟩) 1 1))).heap.size, 0, none⟩) 1 [⟨[97], []⟩] := sl_new (w := (((w4.setCell ⟨gv, 2, none⟩ (.bool true)).setCell ⟨gv, 3, none⟩ (.string ⟨#[]⟩)).setCell ⟨gv, 4, none⟩ (.slice (some ⟨w4.heap.size, 0, none⟩) 1 1))) [⟨[97], []⟩] (by decide)
          rw [World.size_setCell, World.size_setCell, World.size_setCell] at s8
          have v8 := xa_2.later ba
          have B8 := Ya_2.trans (ba.mono Ya_2.size)
          obtain ⟨q0, q1, q2, q3, q4, _⟩ := v8.cells
          have hwe := write_none (v := ⟨(K ++ [107]), (1 + (S : Int)), true, [], [⟨[97], []⟩]⟩) (by rw [rtE_meta (by omega) (by simp; omega) (by simp) (fun _ => rfl) (.inl (by simp))]; decide) _ (some ⟨w4.heap.size, 0, none⟩) 1 1 rfl s8.at' (by simp [aaL] <;> omega)
          rw [rtE_meta (by omega) (by simp; omega) (by simp) (fun _ => rfl) (.inl (by simp))] at hwe
          simp only at hwe
          have BE := B8
          go_wp2_with fail
          with_reducible refine Calls.mono hwe ?_
          rintro e we ⟨rfl, be⟩
          dsimp only
          go_wp2_with fail
          go_ret
          exact ⟨rfl, BE.trans (be.mono BE.size)⟩
end Go.Proofs.Ytahdndmmakdamaa
