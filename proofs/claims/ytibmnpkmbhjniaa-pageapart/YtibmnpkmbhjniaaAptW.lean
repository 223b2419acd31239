/- PageApart: the walk. -/
import Derived.Test.YtibmnpkmbhjniaaApt
import Derived.Test.YtibmnpkmbhjniaaFst
namespace Go.Proofs.Ytibmnpkmbhjniaa
set_option linter.unusedVariables false
set_option linter.unusedSimpArgs false
open Go.RowKit
attribute [local go_sem ↓] Go.wp_at_zero Go.wp_at_succ
attribute [local go_sem ↓] slPe sl9
theorem lenTT {P D X Y E : List En} {n : Nat} (h1 : P.length ≤ n) (h2 : D.length ≤ n) (h3 : X.length ≤ n) (h4 : Y.length ≤ n) (h5 : E.length ≤ n) (i : Nat) : (TT P D X Y E i).length ≤ n := by
  unfold TT; split <;> assumption
theorem lenTL (l : List En) (k v b : List UInt8) (h : l.length ≤ 200) (i : Nat) : (TL l k v b i).length ≤ 70000 := by
  have := rdl_len b
  refine lenTT ?_ ?_ ?_ ?_ ?_ i
  · rw [put_len]; split <;> omega
  · rw [del_len]; omega
  · rw [List.length_take]; omega
  · rw [List.length_drop]; omega
  · omega
set_option maxHeartbeats 8000000 in
set_option maxRecDepth 20000 in
theorem pageApart_walk (raw : List En) (a : Option Addr) (cap : Nat) (key value b : List UInt8) (W : World) (hP : PIn W a raw) (hl : raw.length ≤ 4398046510976)
    (hb0 : b.length ≤ 140737488351232) :
    Calls Try.prog 6 #[.slice a raw.length cap, str key, str value, str b] W fun e W' => e = .returned (.bool true) ∧ Below W.heap.size W W' := by
  have hLs := srtd_srt raw
  have hLl := srtd_len raw
  have hso := fun w h => sorted_any raw w a raw.length cap rfl h (by omega)
  generalize srtd raw = L at *
  have hTV := lenTL L key value b hLl
  have hto := fun w a cap h => told_any L key value b hLs w a L.length cap rfl h (by omega) (by omega)
  generalize TL L key value b = TV at *
  go_enter Try.func6, Try.ntmps6
  go_wp2_with fail
  refine (first_any _).mono ?_
  rintro e w1 ⟨rfl, b1⟩
  dsimp only
  go_wp2_with fail
  refine (hso _ (hP.later b1)).mono ?_
  rintro e w2 ⟨v2, rfl, o2, b2⟩
  dsimp only
  obtain ⟨al, cl, rfl, sl2⟩ := o2.sl
  have B2 := below_seq b1 b2
  clear hso o2 b1 b2
  go_wp2_with (refine app_slice rfl _ _ rfl L (Ow.nil _ w2.heap.size (Nat.le_refl _)) sl2 rfl (by simp; omega) rfl rfl ?_; rw [List.nil_append]; intro v3 w3 o3 b3; obtain ⟨aw, cw, rfl, sw3⟩ := o3.sl)
  have B3 := below_seq B2 b3
  have sl3 := sl2.later b3
  clear B2 b3 sl2 o3
  go_wp2_with fail
  with_reducible refine Calls.mono (hto w3 al cl sl3) ?_
  rintro e w4 ⟨R, u, rfl, hR, K4, R4, b4⟩
  dsimp only
  go_wp2_with fail
  go_loopw [12] (fun i wr => ∃ k : Nat, k ≤ 5 ∧ i = .int .i64 (k : Int) ∧ Rs w3.heap.size wr 15 u (X1 TV k) ∧ Bk wr R u ∧ Below w3.heap.size w3 wr) (fun i _ => 5 - (intOf i).toNat)
  case atStart => exact ⟨0, by omega, rfl, R4.congr (fun _ _ => rfl) (fun j _ => X1_zero TV j), K4, b4⟩
  case round =>
    clear R4 K4 b4
    obtain ⟨k, hk, rfl, hT, hK, hb⟩ := hrel
    by_cases hlt : k < 5
    · have d1 : decide ((k : Int) < 5) = true := decide_eq_true (by omega)
      have k5 : (k : Int) < 5 := by omega
      have hn := hTV k
      obtain ⟨ax, cx, hux, _⟩ := (hT.ow (k * 3) (by omega)).sl
      rw [X1_at] at hux
      have hT0 : Rs w3.heap.size wr 15 u (upd (X1 TV k) (k * 3) (mkd qm (TV k) 0)) := by rw [mkd_zero, ← X1_at TV k, upd_self]; exact hT
      have HX : Hid (∀ w', Rs w3.heap.size w' 15 u (upd (X1 TV k) (k * 3) (mkd qm (TV k) (TV k).length)) → Rs w3.heap.size w' 15 u (X1 TV (k + 1))) := ⟨fun w' h => h.congr (fun _ _ => rfl) (fun j _ => by rw [mkd_all]; exact X1_next TV k j)⟩
      generalize TV k = l at *
      generalize X1 TV k = X at *
      clear hT
      go_wp2_with fail
      go_loopw [13] (fun i wr => ∃ m : Nat, m ≤ l.length ∧ i = .int .i64 (m : Int) ∧ Rs w3.heap.size wr 15 u (upd X (k * 3) (mkd qm l m)) ∧ Bk wr R u ∧ Below w3.heap.size w3 wr) (fun i _ => l.length - (intOf i).toNat)
      case atStart => exact ⟨0, by omega, rfl, hT0, hK, hb⟩
      case round =>
        clear hT0 hK hb
        obtain ⟨m, hm, rfl, hT, hK, hb⟩ := hrel
        have c0 := (hK.cell (k * 3) (by omega)).1
        rw [hux] at c0
        by_cases hml : m < l.length
        · have d2 : decide ((m : Int) < (l.length : Int)) = true := decide_eq_true (by omega)
          have m2 : (m : Int) < (l.length : Int) := by omega
          have ho := hT.ow (k * 3) (by omega)
          rw [upd_same, hux] at ho
          obtain ⟨g, c', e, hg1, hg2, hfr⟩ := ho.form (by rw [mkd_len qm l m hm]; omega)
          injection e with e1 e2 e3
          subst e1 e3
          clear e2
          obtain ⟨p, hp⟩ : ∃ p, (mkd qm l m)[m]? = some p := ⟨_, List.getElem?_eq_getElem (by rw [mkd_len qm l m hm]; exact hml)⟩
          obtain ⟨a2, c2, e, pX⟩ := ho.slice
          injection e with e1 e2 e3
          subst e1 e3
          clear e2
          obtain ⟨b9, o9, e, _, c1, c2⟩ := pX.get m p hp
          injection e with e
          injection e with e1 e4
          subst e1 e4
          simp only [Nat.zero_add] at c1 c2
          have gne : R ≠ g := fun q => hK.ne ho (by rw [q]; rfl)
          have HT2 : Hid (Rs w3.heap.size ((wr.setCell ⟨g, m * 2, none⟩ (str qm.key)).setCell ⟨g, m * 2 + 1, none⟩ (str qm.val)) 15 u (upd X (k * 3) (mkd qm l (m + 1)))) := ⟨hT.mark hlt hml hux⟩
          have HK2 : Hid (Bk ((wr.setCell ⟨g, m * 2, none⟩ (str qm.key)).setCell ⟨g, m * 2 + 1, none⟩ (str qm.val)) R u) := ⟨hK.same (by rw [heap_setCell_other _ _ _ _ gne, heap_setCell_other _ _ _ _ gne])⟩
          clear pX hp hT hK ho gne
          go_wp2_with fail
          exact ⟨⟨m + 1, by omega, by go_num, HT2.out, HK2.out, (hb.setCell (p := ⟨g, m * 2, none⟩) hg1 _).setCell (p := ⟨g, m * 2 + 1, none⟩) hg1 _⟩, by simp [intOf]; omega⟩
        · obtain rfl : m = l.length := by omega
          have d2 : decide ((l.length : Int) < (l.length : Int)) = false := decide_eq_false (by omega)
          have HT2 := Hid.mk (HX.out _ hT)
          clear hT HX
          go_wp2_with fail
          exact ⟨⟨k + 1, by omega, by go_num, HT2.out, hK, hb⟩, by simp [intOf]; omega⟩
    · obtain rfl : k = 5 := by omega
      have d1 : decide ((5 : Int) < 5) = false := by decide
      have hT5 : Rs w3.heap.size wr 15 u (X2 TV 0) := hT.congr (fun _ _ => rfl) (fun j hj => X2_zero TV j hj)
      clear hT
      go_wp2_with fail
      go_loopw [14] (fun i wr => ∃ (k : Nat) (u : Nat → Value), k ≤ 5 ∧ i = .int .i64 (k : Int) ∧ Rs w3.heap.size wr 15 u (X2 TV k) ∧ Bk wr R u ∧ Below w3.heap.size w3 wr) (fun i _ => 5 - (intOf i).toNat)
      case atStart => exact ⟨0, u, by omega, rfl, hT5, hK, hb⟩
      case round =>
        clear hT5 hK hb
        obtain ⟨k, u, hk, rfl, hT, hK, hb⟩ := hrel
        by_cases hlt : k < 5
        · have d1 : decide ((k : Int) < 5) = true := decide_eq_true (by omega)
          have k5 : (k : Int) < 5 := by omega
          have hn := hTV k
          have hT0 : Rs w3.heap.size wr 15 u (upd (X2 TV k) (k * 3) (grw (TV k) 0)) := by rw [← X2_at TV k, upd_self]; exact hT
          have HX : Hid (∀ w' u', Rs w3.heap.size w' 15 u' (upd (X2 TV k) (k * 3) (grw (TV k) 10)) → Rs w3.heap.size w' 15 u' (X2 TV (k + 1))) := ⟨fun w' u' h => h.congr (fun _ _ => rfl) (fun j _ => X2_next TV k j)⟩
          generalize TV k = l at *
          generalize X2 TV k = X at *
          clear hT
          go_wp2_with fail
          go_loopw [15] (fun i wr => ∃ (m : Nat) (u : Nat → Value), m ≤ 10 ∧ i = .int .i64 (m : Int) ∧ Rs w3.heap.size wr 15 u (upd X (k * 3) (grw l m)) ∧ Bk wr R u ∧ Below w3.heap.size w3 wr) (fun i _ => 10 - (intOf i).toNat)
          case atStart => exact ⟨0, u, by omega, rfl, hT0, hK, hb⟩
          case round =>
            clear hT0 hK hb
            obtain ⟨m, u, hm, rfl, hT, hK, hb⟩ := hrel
            have k3 : k * 3 < 15 := by omega
            have c0 := (hK.cell (k * 3) k3).1
            by_cases hml : m < 10
            · have d2 : decide ((m : Int) < 10) = true := decide_eq_true (by omega)
              have ho := hT.ow (k * 3) k3
              rw [upd_same] at ho
              obtain ⟨ax, cx, hux, _⟩ := ho.sl
              rw [hux] at c0
              have lg : (upd X (k * 3) (grw l m) (k * 3)).length ≤ 1000000000 := by rw [upd_same, grw_len]; omega
              have HN : Hid (∀ w' u', Rs w3.heap.size w' 15 u' (upd (upd X (k * 3) (grw l m)) (k * 3) (upd X (k * 3) (grw l m) (k * 3) ++ [qg])) → Rs w3.heap.size w' 15 u' (upd X (k * 3) (grw l (m + 1)))) := ⟨fun w' u' h => by rw [upd_same, grw_snoc, upd_upd] at h; exact h⟩
              have hneR : ∀ j, j < 15 → (u j).ownBlock ≠ some R := fun j hj => hK.ne (hT.ow j hj)
              have hRlt := hK.lt
              go_wp2_with (refine rs_app rfl _ _ rfl qg rfl hT k3 rfl lg (by first | exact hux.symm | (rw [hux]; rfl)) rfl ?_; intro g cap w7 hT7 hb7 hold; have hK7 := hK.same (hold R hRlt hneR); have c7 := (hK7.cell (k * 3) k3).1; have f7 := (hK7.cell (k * 3) k3).2)
              refine ⟨⟨.int .i64 ((m + 1 : Nat) : Int), _, _, _, _, _, _, _, _, _, _, _, _, _, _, _, _, ?_, rfl⟩, by simp [intOf]; omega⟩
              exact ⟨m + 1, _, by omega, by go_num, HN.out _ _ (hT7.storeB hK7 (k * 3) _), hK7.store (k * 3) k3 _, (hb.trans hb7).setCell (p := ⟨R, k * 3, none⟩) hR _⟩
            · obtain rfl : m = 10 := by omega
              have d2 : decide ((10 : Int) < 10) = false := by decide
              have HT2 := Hid.mk (HX.out _ _ hT)
              clear hT HX c0
              go_wp2_with fail
              exact ⟨⟨k + 1, u, by omega, by go_num, HT2.out, hK, hb⟩, by simp [intOf]; omega⟩
        · obtain rfl : k = 5 := by omega
          have d1 : decide ((5 : Int) < 5) = false := by decide
          go_wp2_with fail
          with_reducible refine Calls.mono (hto wr al cl (sl3.later hb)) ?_
          rintro e w8 ⟨R2, u2, rfl, hR2, K8, R8, b8⟩
          dsimp only
          have T8 := hT.later b8
          have KB := hK.later b8
          have B8 : Below w3.heap.size w3 w8 := below_seq hb b8
          clear hT hK hb b8 hto
          go_wp2_with fail
          go_loopw [17] (fun i wr => ∃ k : Nat, k ≤ 5 ∧ i = .int .i64 (k : Int) ∧ Below w8.heap.size w8 wr) (fun i _ => 5 - (intOf i).toNat)
          case atStart => exact ⟨0, by omega, rfl, Below.refl _ _⟩
          case round =>
            obtain ⟨k, hk, rfl, hb⟩ := hrel
            by_cases hlt : k < 5
            · have d1 : decide ((k : Int) < 5) = true := decide_eq_true (by omega)
              have k5 : (k : Int) < 5 := by omega
              have hn := hTV k
              have KB9 := KB.later hb
              have K9 := K8.later hb
              have T9 := T8.later hb
              have R9 := R8.later hb
              have ox := T9.ow (k * 3) (by omega)
              have oy := T9.ow (k * 3 + 1) (by omega)
              have oz := T9.ow (k * 3 + 2) (by omega)
              have oq := R9.ow (k * 3 + 1) (by omega)
              rw [X2_full TV k hlt] at ox
              rw [X2_one TV k] at oy
              rw [X2_two TV k] at oz
              rw [show (k * 3 + 1) / 3 = k by omega] at oq
              have c0 := (KB9.cell (k * 3) (by omega)).1
              have c1 := (KB9.cell (k * 3 + 1) (by omega)).1
              have c2 := (KB9.cell (k * 3 + 2) (by omega)).1
              have c3 := (K9.cell (k * 3 + 1) (by omega)).1
              have q3 := K9.lt
              generalize TV k = l at *
              obtain ⟨ax, cx, ex, sx⟩ := ox.sl
              obtain ⟨ay, cy, ey, sy⟩ := oy.sl
              obtain ⟨az, cz, ez, sz⟩ := oz.sl
              obtain ⟨aq, cq, eq, sq⟩ := oq.sl
              rw [ex] at c0
              rw [ey] at c1
              rw [ez] at c2
              rw [eq] at c3
              rw [grw_len] at c0
              clear KB9 K9 T9 R9 ox oy oz oq ex ey ez eq
              have hlen : (10 : Int) + 0 = 10 := rfl
              go_wp2_with fail
              have A9 : Below wr.heap.size wr (wr.alloc (.cells #[.slice ax (l.length + 10) cx, .slice ay l.length cy, .slice az l.length cz] 54)) := (Below.refl _ _).alloc (Nat.le_refl _) _
              have m3 := (Below.cell (p := ⟨R2, k * 3 + 1, none⟩) A9 q3).trans c3
              obtain ⟨m0, m1, m2⟩ := box3 (heap_alloc_new wr (.cells #[.slice ax (l.length + 10) cx, .slice ay l.length cy, .slice az l.length cz] 54))
              have q9 : wr.heap.size < (wr.alloc (.cells #[.slice ax (l.length + 10) cx, .slice ay l.length cy, .slice az l.length cz] 54)).heap.size := by simp
              have q8 := Nat.lt_trans q3 q9
              have sx9 := sx.later A9
              have sy9 := sy.later A9
              have sz9 := sz.later A9
              have sq9 := sq.later A9
              have hb9 := below_seq hb A9
              clear A9 hb sx sy sz sq c0 c1 c2 c3 q3
              generalize wr.alloc (.cells #[.slice ax (l.length + 10) cx, .slice ay l.length cy, .slice az l.length cz] 54) = w9 at *
              generalize wr.heap.size = p9 at *
              have XC : Hid (∀ w', Below w9.heap.size w9 w' → Below w9.heap.size w9 w' ∧ w'.cell? ⟨p9, 0, none⟩ = some (.slice ax (l.length + 10) cx) ∧ w'.cell? ⟨p9, 1, none⟩ = some (.slice ay l.length cy) ∧ w'.cell? ⟨p9, 2, none⟩ = some (.slice az l.length cz) ∧ w'.cell? ⟨R2, k * 3 + 1, none⟩ = some (.slice aq l.length cq)) := ⟨fun w' h => ⟨h, (Below.cell (p := ⟨p9, _, none⟩) h q9).trans m0, (Below.cell (p := ⟨p9, _, none⟩) h q9).trans m1, (Below.cell (p := ⟨p9, _, none⟩) h q9).trans m2, (Below.cell (p := ⟨R2, _, none⟩) h q8).trans m3⟩⟩
              have l9 : l.length ≤ 1000000000000 := by omega
              have g1 := fun w' (h : Below w9.heap.size w9 w') => same_any l l w' ay az l.length l.length cy cz rfl rfl (sy9.later h).at' (sz9.later h).at' l9 l9
              have g2 := fun w' (h : Below w9.heap.size w9 w') => same_any l l w' aq az l.length l.length cq cz rfl rfl (sq9.later h).at' (sz9.later h).at' l9 l9
              rw [same_true rfl] at g1 g2
              have d3 : IntKind.i64.wrap ((l.length : Int) + 10) = (l.length : Int) + 10 := by rw [IntKind.wrap_i64]; omega
              go_region_held3 (fun w' => Below w9.heap.size w9 w' ∧ w'.cell? ⟨p9, 0, none⟩ = some (.slice ax (l.length + 10) cx) ∧ w'.cell? ⟨p9, 1, none⟩ = some (.slice ay l.length cy) ∧ w'.cell? ⟨p9, 2, none⟩ = some (.slice az l.length cz) ∧ w'.cell? ⟨R2, k * 3 + 1, none⟩ = some (.slice aq l.length cq)) (first
                | exact XC.out _ (Below.refl _ _).drew
                | exact XC.out _ (below_seq (And.left (by assumption)) b21)
                | exact XC.out _ (below_seq (And.left (by assumption)) b22)) (first
                | (go_at_call 13; with_reducible refine Calls.mono (g1 _ (And.left (by assumption))) ?_; rintro e w21 ⟨rfl, b21⟩)
                | (go_at_call 13; with_reducible refine Calls.mono (g2 _ (And.left (by assumption))) ?_; rintro e w22 ⟨rfl, b22⟩))
              have HB22 : Below w9.heap.size w9 w22 := And.left (by assumption)
              clear g1 g2 b21 b22 d3 sy9 sz9 sq9 q8 q9 m0 m1 m2 m3
              go_wp2_with fail
              go_loopw [19] (fun i wr => ∃ m : Nat, m ≤ l.length + 10 ∧ i = .int .i64 (m : Int) ∧ Below w9.heap.size w9 wr) (fun i _ => l.length + 10 - (intOf i).toNat)
              case atStart => exact ⟨0, by omega, rfl, HB22⟩
              case round =>
                clear HB22
                obtain ⟨m, hm, rfl, hb⟩ := hrel
                obtain ⟨_, n0, n1, n2, n3⟩ := XC.out _ hb
                by_cases hml : m < l.length + 10
                · have d4 : decide ((m : Int) < (l.length : Int) + 10) = true := decide_eq_true (by omega)
                  have d5 : (m : Int) < (l.length : Int) + 10 := by omega
                  by_cases hll : m < l.length
                  · have d6 : decide ((m : Int) < (l.length : Int)) = true := decide_eq_true (by omega)
                    have d7 : decide ((l.length : Int) ≤ (m : Int)) = false := decide_eq_false (by omega)
                    obtain ⟨b1, off1, rfl, hbl, f0, f1⟩ := (sx9.later hb).at'.get m qm (grw_lo l 10 m hll)
                    clear f1 n1 n3
                    go_wp2_with fail
                    go_quiet (fail)
                    go_wp2_with fail
                    exact ⟨⟨m + 1, by omega, by go_num, below_dN hb nq⟩, by simp [intOf]; omega⟩
                  · have d6 : decide ((m : Int) < (l.length : Int)) = false := decide_eq_false (by omega)
                    have d7 : decide ((l.length : Int) ≤ (m : Int)) = true := decide_eq_true (by omega)
                    have d8 : decide (l.length ≤ m) = true := decide_eq_true (by omega)
                    obtain ⟨b1, off1, rfl, hbl, f0, f1⟩ := (sx9.later hb).at'.get m qg (grw_hi l 10 m (by omega) hml)
                    clear f1 n1 n3
                    go_wp2_with fail
                    go_quiet (fail)
                    go_wp2_with fail
                    exact ⟨⟨m + 1, by omega, by go_num, below_dN hb nq⟩, by simp [intOf]; omega⟩
                · have d4 : decide ((m : Int) < (l.length : Int) + 10) = false := decide_eq_false (by omega)
                  clear n1 n2 n3
                  go_wp2_with fail
                  refine ⟨?_, by simp [intOf]; omega⟩
                  repeat apply Exists.intro
                  exact ⟨⟨k + 1, by omega, rfl, below_seq hb9 hb⟩, rfl⟩
            · obtain rfl : k = 5 := by omega
              have d1 : decide ((5 : Int) < 5) = false := by decide
              have B9 := below_seq B8 hb
              have hsm := same_any L L wr al aw L.length L.length cl cw rfl rfl (sl3.later B9).at' (sw3.later B9).at' (by omega) (by omega)
              rw [same_true rfl] at hsm
              go_wp2_with fail
              with_reducible refine Calls.mono hsm ?_
              rintro e w30 ⟨rfl, b30⟩
              dsimp only
              go_wp2_with fail
              go_ret
              exact ⟨rfl, below_seq (below_seq B3 B9) b30⟩
end Go.Proofs.Ytibmnpkmbhjniaa
