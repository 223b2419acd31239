/- The reference's Write. -/
import Derived.Test.YtlgpodcoiioefaaGreatRr
import Derived.Test.YtlgpodcoiioefaaGreatIns
import Derived.Deep.CutRange
namespace Go.Proofs.YtlgpodcoiioefaaGreat
set_option linter.unusedVariables false
set_option linter.unusedSimpArgs false
open Go.RowKit Go.Maps
variable {w0 w w' : World} {Ls : List (Th → Prop)} {b x g : Nat} {B : List ByteArray} {W : Wl} {o : Bool}
set_option maxRecDepth 100000 in
theorem rwrite_over (h : EnvP w0 w Ls) (i : Nat) (hi : Ls[i]? = some (rt x g W true)) (v t : Value) : Calls Tryz.prog 24 #[pt x, v, t] w fun e w' => e = .returned (.int .i64 8) ∧ ∃ k, w' = w.drewN k := by
  obtain ⟨v, hne, hx, hm, _⟩ := h.rt i hi
  have c2 : w.cell? ⟨x, 2, none⟩ = some (.bool true) := cell_of_row w x 2 _ _ (0, 0) hx
  clear h hi hx hm
  go_enter Tryz.func24, Tryz.ntmps24
  go_wp2
  go_ret
  exact ⟨rfl, 0, rfl⟩
set_option maxRecDepth 100000 in
theorem rwrite_bad (h : EnvP w0 w Ls) (i j : Nat) (hi : Ls[i]? = some (rt x b W false)) (hj : Ls[j]? = some (rl b B)) (z : Int) (t : ByteArray) (hz : ¬ (0 ≤ z ∧ z < B.length ∧ t.size = 512)) : Calls Tryz.prog 24 #[pt x, .int .i64 z, .string t] w fun e w' => e = .returned (.int .i64 1) ∧ ∃ k, w' = w.drewN k := by
  obtain ⟨v, hne, hx, hm, _⟩ := h.rt i hi
  obtain ⟨vl, hnb, hb, hmb, _⟩ := h.rl j hj
  obtain ⟨la, lc, rfl⟩ := own_slice hmb
  have c0 : w.cell? ⟨x, 0, none⟩ = some (pt b) := cell_of_row w x 0 _ _ (0, 0) hx
  have c2 : w.cell? ⟨x, 2, none⟩ = some (.bool false) := cell_of_row w x 2 _ _ (0, 0) hx
  have d0 : w.cell? ⟨b, 0, none⟩ = some (.slice la B.length lc) := cell_of_row w b 0 _ _ (0, 0) hb
  clear h hi hx hm hj hb hmb
  by_cases h0 : z < 0
  · clear hz
    go_enter Tryz.func24, Tryz.ntmps24
    go_wp2
    go_ret
    exact ⟨rfl, 0, rfl⟩
  · by_cases h1 : z < B.length
    · have h2 : ¬ ((t.size : Int) = 512) := fun e => hz ⟨by omega, h1, by omega⟩
      have h3 : ((t.size : Int) != 512) = true := by rw [bne_iff_ne]; exact h2
      clear hz h2
      go_enter Tryz.func24, Tryz.ntmps24
      go_wp2
      go_ret
      exact ⟨rfl, 0, rfl⟩
    · clear hz
      go_enter Tryz.func24, Tryz.ntmps24
      go_wp2
      go_ret
      exact ⟨rfl, 0, rfl⟩
set_option maxHeartbeats 4000000 in
set_option maxRecDepth 100000 in
theorem rwrite_env (h : EnvP w0 w Ls) (i j : Nat) (hi : Ls[i]? = some (rt x b W false)) (hj : Ls[j]? = some (rl b B)) (N : Nat) (t : ByteArray) (hN : N < B.length) (ht : t.size = 512) (hR : Rising W) (hl : W.length ≤ 8192) (hB : B.length ≤ 8192) : Calls Tryz.prog 24 #[pt x, .int .i64 (N : Int), .string t] w fun e w' => e = .returned (.int .i64 0) ∧ EnvP w0 w' (Ls.set i (rt x b (insW N t W) false)) := by
  obtain ⟨v, hne, hx, hm, hn⟩ := h.rt i hi
  obtain ⟨vl, hnb, hb, hmb, _⟩ := h.rl j hj
  obtain ⟨la, lc, rfl⟩ := own_slice hmb
  obtain ⟨a, c, rfl⟩ := own_slice hm
  have c0 : w.cell? ⟨x, 0, none⟩ = some (pt b) := cell_of_row w x 0 _ _ (0, 0) hx
  have c1 : w.cell? ⟨x, 1, none⟩ = some (.slice a W.length c) := cell_of_row w x 1 _ _ (0, 0) hx
  have c2 : w.cell? ⟨x, 2, none⟩ = some (.bool false) := cell_of_row w x 2 _ _ (0, 0) hx
  have d0 : w.cell? ⟨b, 0, none⟩ = some (.slice la B.length lc) := cell_of_row w b 0 _ _ (0, 0) hb
  have hNi : (N : Int) < B.length := by omega
  have hN0 : ¬ ((N : Int) < 0) := by omega
  have hti : (t.size : Int) = 512 := by omega
  have HC : Hid (∀ w', Below w.heap.size w w' → w'.cell? ⟨x, 1, none⟩ = some (.slice a W.length c) ∧ w'.frozen? ⟨x, 1, none⟩ = false) := ⟨fun w' bw => ⟨(bw.cell (p := ⟨x, 1, none⟩) (heap_lt hx)).trans c1, by
    have := bw.block x (heap_lt hx)
    rw [World.frozen?_of_block (a := ⟨x, 1, none⟩) this]; exact frozen_of_row w x 1 _ _ hx⟩⟩
  have HW : Hid (∀ (k : Nat) (p : Nat × ByteArray), W[k]? = some p → ∃ g, a = some ⟨g, 0, none⟩ ∧ ∀ w', Below w.heap.size w w' → w'.cell? ⟨g, k * 2, none⟩ = some (.int .i64 (p.1 : Int)) ∧ w'.cell? ⟨g, k * 2 + 1, none⟩ = some (.string p.2)) := ⟨fun k p hp => by
    rcases hm.2 with ⟨_, h0⟩ | ⟨g, cap, cur, e, _⟩
    · have := (List.getElem?_eq_some_iff.1 hp).1; omega
    · injection e with e1 _ _
      subst e1
      have hm' : w.ownsRow 0 78 2 (.slice (some ⟨g, 0, none⟩) W.length c) (ints W).length (wci (ints W)) := by rw [wci_ints, ints_length]; exact hm
      obtain ⟨q0, q1⟩ := own_cell2 (l := ints W) hm' k _ (ints_at W k p hp)
      exact ⟨g, rfl, fun w' bw => ⟨later_cell bw (World.block_lt_of_cell? w _ q0) q0, later_cell bw (World.block_lt_of_cell? w _ q1) q1⟩⟩⟩
  have HE : Hid (∀ (w' : World) (ra : Option Addr) (rc : Nat), w'.ownsRow 0 78 2 (.slice ra (insW N t W).length rc) (insW N t W).length (wcs (insW N t W)) → Below w.heap.size w w' → (∀ k, (Value.slice ra (insW N t W).length rc).ownBlock = some k → w.heap.size ≤ k) → EnvP w0 (w'.setCell ⟨x, 1, none⟩ (.slice ra (insW N t W).length rc)) (Ls.set i (rt x b (insW N t W) false))) := ⟨fun w' ra rc o bw hy => by
    have hx' : w'.heap[x]? = some (.cells #[pt b, .slice a W.length c, .bool false] 67 (0, 0)) := (bw.block x (heap_lt hx)).trans hx
    have fr2 : Fr (fun k => k = x) w' (w'.setCell ⟨x, 1, none⟩ (.slice ra (insW N t W).length rc)) := fr_set w' x 1 _ rfl
    refine hn _ (.slice ra (insW N t W).length rc) (insW N t W) false (cell_set w' x 1 _ _ _ hx') (fr2.own o (fun k hk e => by have := hy k hk; have := heap_lt hx; omega)) ((Fr.of_below bw).trans fr2 (fun k _ hk => .inl hk)) (fun k hk => .inr (hy k hk))⟩
  have HRS : Hid (Rising W) := ⟨hR⟩
  clear h hi hj hx hm hn hb hmb hR hnb hne
  go_enter Tryz.func24, Tryz.ntmps24
  go_wp2_with fail
  go_loopw [7, 8, 9] (fun v bv i wr => ∃ (k : Nat) (pb : Bool) (R : Wl) (ra : Option Addr) (rc : Nat), k ≤ W.length ∧ i = .int .i64 (k : Int) ∧ bv = .bool pb ∧ v = .slice ra R.length rc ∧ Hid (InsAt N t W k pb R) ∧ Hid (wr.ownsRow 0 78 2 (.slice ra R.length rc) R.length (wcs R)) ∧ Hid (Below w.heap.size w wr) ∧ Hid (∀ k, (Value.slice ra R.length rc).ownBlock = some k → w.heap.size ≤ k)) (fun _ _ i _ => W.length - (intOf i).toNat)
  case atStart => exact ⟨0, false, [], none, 0, Nat.zero_le _, rfl, rfl, rfl, ⟨InsAt.zero N t W⟩, ⟨World.ownsRow_nil _ _ _ _⟩, ⟨Below.refl _ _⟩, ⟨fun k hk => by cases hk⟩⟩
  case round =>
    obtain ⟨k, pb, R, ra, rc, hk, rfl, rfl, rfl, HI, O, BB, HY⟩ := hrel
    obtain ⟨d1, f1⟩ := HC.out wr BB.out
    have hRl : R.length ≤ 8193 := by have := HI.out.len; omega
    by_cases hlt : k < W.length
    · obtain ⟨⟨M, Y⟩, hy⟩ : ∃ z, W[k]? = some z := ⟨_, List.getElem?_eq_getElem hlt⟩
      obtain ⟨g, rfl, HG⟩ := HW.out k _ hy
      have HGG : Hid (∀ w', Below w.heap.size w w' → w'.cell? ⟨g, k * 2, none⟩ = some (.int .i64 (M : Int)) ∧ w'.cell? ⟨g, k * 2 + 1, none⟩ = some (.string Y)) := ⟨HG⟩
      have HYY : Hid (W[k]? = some (M, Y)) := ⟨hy⟩
      obtain ⟨cM, cY⟩ := HG wr BB.out
      have hki : (k : Int) < W.length := by omega
      clear hy HG HW HE
      go_upto_region 10 with fail
      go_cut [55] from 33 to 81 (fun v wx => v = .bool (!pb && decide (N ≤ M)) ∧ wx = wr)
      case first =>
        cases pb with
        | true =>
          go_wp2_with fail
          go_meet
          exact ⟨rfl, rfl⟩
        | false =>
          by_cases hge : N ≤ M
          · have hgi : (N : Int) ≤ (M : Int) := by omega
            have hd : decide (N ≤ M) = true := decide_eq_true hge
            go_wp2_with fail
            go_meet
            exact ⟨by rw [hd]; rfl, rfl⟩
          · have hgi : ¬ ((N : Int) ≤ (M : Int)) := by omega
            have hd : decide (N ≤ M) = false := decide_eq_false hge
            go_wp2_with fail
            go_meet
            exact ⟨by rw [hd]; rfl, rfl⟩
      case rest =>
        obtain ⟨rfl, rfl⟩ := hcut
        go_upto_if 55 with fail
        go_cut [7, 8] from 33 to 81 (fun r pv wx => ∃ (pb2 : Bool) (R2 : Wl) (ra2 : Option Addr) (rc2 : Nat), r = .slice ra2 R2.length rc2 ∧ pv = .bool pb2 ∧ Hid (InsMid N t W k (M, Y) pb2 R2 ∧ R2.length ≤ 8194) ∧ Hid (wx.ownsRow 0 78 2 (.slice ra2 R2.length rc2) R2.length (wcs R2)) ∧ Hid (Below w.heap.size w wx) ∧ Hid (∀ k, (Value.slice ra2 R2.length rc2).ownBlock = some k → w.heap.size ≤ k))
        case first =>
          cases pb with
          | true =>
            rw [Bool.not_true, Bool.false_and]
            have HM : Hid (InsMid N t W k (M, Y) true R ∧ R.length ≤ 8194) := ⟨HI.out.mid_past HRS.out HYY.out, by omega⟩
            go_wp2_with fail
            go_meet
            exact ⟨true, R, ra, rc, rfl, rfl, HM, O, BB, HY⟩
          | false =>
            by_cases hge : N ≤ M
            · have HM : Hid (InsMid N t W k (M, Y) true (R ++ [(N, t)]) ∧ (R ++ [(N, t)]).length ≤ 8194) := ⟨HI.out.mid_more HYY.out hge, by rw [List.length_append]; simp; omega⟩
              have hd : decide (N ≤ M) = true := decide_eq_true hge
              rw [hd, Bool.not_false, Bool.true_and]
              go_wp2_with (at_builtin; refine app_write (v := .slice ra R.length rc) (g := wc.heap.size) (l := R) (i := (N : Int)) N rfl rfl rfl O.out (by omega) rfl _ _ rfl rfl rfl ?_; intro y3 c3 W3 q3 g3 n3)
              have O3 : Hid (W3.ownsRow 0 78 2 (.slice (some ⟨y3, 0, none⟩) (R ++ [(N, t)]).length c3) (R ++ [(N, t)]).length (wcs (R ++ [(N, t)]))) := ⟨by rw [List.length_append]; exact q3⟩
              have B3 : Hid (Below w.heap.size w W3) := ⟨BB.out.grown g3 BB.out.size (fun k hk => HY.out k hk)⟩
              have Y3 : Hid (∀ k, (Value.slice (some ⟨y3, 0, none⟩) (R ++ [(N, t)]).length c3).ownBlock = some k → w.heap.size ≤ k) := ⟨fun k hk => by cases hk; rcases n3 with n3 | n3; exact HY.out _ n3; exact Nat.le_trans BB.out.size n3⟩
              clear q3 g3 n3
              go_meet
              exact ⟨true, R ++ [(N, t)], some ⟨y3, 0, none⟩, c3, by first | rfl | (rw [List.length_append]; rfl), rfl, HM, O3, B3, Y3⟩
            · have HM : Hid (InsMid N t W k (M, Y) false R ∧ R.length ≤ 8194) := ⟨HI.out.mid_less HYY.out (by simp only; omega), by omega⟩
              have hd : decide (N ≤ M) = false := decide_eq_false hge
              rw [hd, Bool.not_false, Bool.true_and]
              go_wp2_with fail
              go_meet
              exact ⟨false, R, ra, rc, rfl, rfl, HM, O, BB, HY⟩
        case rest =>
          obtain ⟨pb2, R2, ra2, rc2, rfl, rfl, HM, O2, B2, Y2⟩ := hcut
          have hR2 := HM.out.2
          obtain ⟨d2, _⟩ := HC.out wc B2.out
          obtain ⟨cM2, cY2⟩ := HGG.out wc B2.out
          clear O BB HY d1 f1 cM cY HI
          by_cases hne : M = N
          · have HN : Hid (InsAt N t W (k + 1) pb2 R2) := ⟨HM.out.1.same hne⟩
            have hni : (M : Int) = (N : Int) := by omega
            subst hne
            clear hni
            go_wp2
            go_roundw
            case rel => exact ⟨k + 1, pb2, R2, ra2, rc2, by omega, by go_num, rfl, rfl, HN, O2, B2, Y2⟩
            case measure => simp [intOf]; omega
          · have HN : Hid (InsAt N t W (k + 1) pb2 (R2 ++ [(M, Y)])) := ⟨HM.out.1.other hne⟩
            have hni : ¬ ((M : Int) = (N : Int)) := by omega
            have hnb : ((M : Int) != (N : Int)) = true := by rw [bne_iff_ne]; exact hni
            go_wp2_with (at_builtin; refine app_write (v := .slice ra2 R2.length rc2) (g := wc.heap.size) (l := R2) (i := (M : Int)) M rfl rfl rfl O2.out (by omega) rfl _ _ rfl rfl rfl ?_; intro y4 c4 W4 q4 g4 n4)
            have O4 : Hid (W4.ownsRow 0 78 2 (.slice (some ⟨y4, 0, none⟩) (R2 ++ [(M, Y)]).length c4) (R2 ++ [(M, Y)]).length (wcs (R2 ++ [(M, Y)]))) := ⟨by rw [List.length_append]; exact q4⟩
            have B4 : Hid (Below w.heap.size w W4) := ⟨B2.out.grown g4 B2.out.size (fun k hk => Y2.out k hk)⟩
            have Y4 : Hid (∀ k, (Value.slice (some ⟨y4, 0, none⟩) (R2 ++ [(M, Y)]).length c4).ownBlock = some k → w.heap.size ≤ k) := ⟨fun k hk => by cases hk; rcases n4 with n4 | n4; exact Y2.out _ n4; exact Nat.le_trans B2.out.size n4⟩
            clear q4 g4 n4
            go_roundw
            case rel => exact ⟨k + 1, pb2, R2 ++ [(M, Y)], some ⟨y4, 0, none⟩, c4, by omega, by go_num, rfl, by first | rfl | (rw [List.length_append]; rfl), HN, O4, B4, Y4⟩
            case measure => simp [intOf]; omega
    · have hke : k = W.length := by omega
      subst hke
      have hki : ¬ ((W.length : Int) < W.length) := by omega
      cases pb with
      | true =>
        have eR := HI.out.end_yes
        subst eR
        have E9 : Hid _ := ⟨HE.out wr ra rc O.out BB.out HY.out⟩
        clear O BB HY HI HW HE
        go_wp2
        go_ret
        exact ⟨rfl, E9.out⟩
      | false =>
        have eR := HI.out.end_no
        go_wp2_with (at_builtin; refine app_write (v := .slice ra R.length rc) (g := wr.heap.size) (l := R) (i := (N : Int)) N rfl rfl rfl O.out (by omega) rfl _ _ rfl rfl rfl ?_; intro y3 c3 W3 q3 g3 n3; obtain ⟨d3, f3⟩ := HC.out W3 (BB.out.grown g3 BB.out.size (fun k hk => HY.out k hk)); have O3 : Hid (W3.ownsRow 0 78 2 (.slice (some ⟨y3, 0, none⟩) (insW N t W).length c3) (insW N t W).length (wcs (insW N t W))) := ⟨by rw [eR, List.length_append]; exact q3⟩; have B3 : Hid (Below w.heap.size w W3) := ⟨BB.out.grown g3 BB.out.size (fun k hk => HY.out k hk)⟩; have Y3 : Hid (∀ k, (Value.slice (some ⟨y3, 0, none⟩) (insW N t W).length c3).ownBlock = some k → w.heap.size ≤ k) := ⟨fun k hk => by cases hk; rcases n3 with n3 | n3; exact HY.out _ n3; exact Nat.le_trans BB.out.size n3⟩; clear q3 g3 n3 d1 f1)
        have E9 := HE.out W3 (some ⟨y3, 0, none⟩) c3 O3.out B3.out Y3.out
        have el : (insW N t W).length = R.length + 1 := by rw [eR]; exact List.length_append
        rw [el] at E9
        rw [eR] at E9
        go_ret
        exact ⟨rfl, E9⟩
end Go.Proofs.YtlgpodcoiioefaaGreat
