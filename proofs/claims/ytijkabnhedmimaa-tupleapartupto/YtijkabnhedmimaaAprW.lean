/- TupleApart: the walk. -/
import Derived.Test.YtijkabnhedmimaaLift
import Derived.Test.YtijkabnhedmimaaOpn
import Derived.Test.YtijkabnhedmimaaApM
import Derived.Test.YtijkabnhedmimaaBackW
namespace Go.Proofs.Ytijkabnhedmimaa
set_option linter.unusedVariables false
set_option linter.unusedSimpArgs false
open Go.RowKit
/-- Read of a text that is one: a row of its own -/
theorem read_own {l : List Pt} (hl : okL l) (w : World) (hs : (wt l).length ≤ 1000000000000) :
    Calls Try.prog 12 #[str (wt l)] w fun e w' => ∃ v, e = .returned (.tuple #[v, .int .i64 0]) ∧ Ow w.heap.size w' v l ∧ Below w.heap.size w w' := by
  refine (read_any (wt l) w hs).mono ?_
  rintro e w' ⟨h, hb⟩
  rcases h with ⟨v, m, hm, he, rfl, hO⟩ | ⟨hno, _⟩
  · have := wt_inj hl hm he
    subst this
    exact ⟨v, rfl, hO, hb⟩
  · exact absurd rfl (hno l hl)
/-- n marks, one of its own, k more -/
def XL (q r t : Pt) (n k : Nat) : List Pt := List.replicate n q ++ r :: List.replicate k t
theorem XL_len (q r t : Pt) (n k : Nat) : (XL q r t n k).length = n + 1 + k := by simp [XL]; omega
theorem XL_snoc (q r t : Pt) (n k : Nat) : XL q r t n k ++ [t] = XL q r t n (k + 1) := by simp [XL, List.replicate_succ']
theorem XL_lo (q r t : Pt) (n k i : Nat) (h : i < n) : (XL q r t n k)[i]? = some q := by unfold XL; rw [List.getElem?_append_left (by simpa using h), List.getElem?_replicate, if_pos h]
theorem XL_mid (q r t : Pt) (n k : Nat) : (XL q r t n k)[n]? = some r := by unfold XL; rw [List.getElem?_append_right (by simp)]; simp
theorem XL_hi (q r t : Pt) (n k i : Nat) (h1 : 1 ≤ i) (h2 : i ≤ k) : (XL q r t n k)[n + i]? = some t := by
  unfold XL
  rw [List.getElem?_append_right (by simp), List.length_replicate, show n + i - n = (i - 1) + 1 by omega, List.getElem?_cons_succ, List.getElem?_replicate, if_pos (by omega)]
abbrev q1 : Pt := ⟨-1, [], 0⟩
abbrev q2 : Pt := ⟨-2, [], 0⟩
attribute [local go_sem ↓] Go.wp_at_zero Go.wp_at_succ
set_option maxHeartbeats 8000000 in
set_option maxRecDepth 20000 in
theorem tupleApart_walk (l : List Pt) (a : Option Addr) (ca : Nat) (W : World) (hP : PIn W a l) (hN : N64 l) (hB : bulk l ≤ 20971520) :
    Calls Try.prog 5 #[.slice a l.length ca] W fun e w' => e = .returned (.bool true) ∧ Below W.heap.size W w' := by
  go_enter Try.func5, Try.ntmps5
  go_wp2_with fail
  refine (head_of cmpC _).mono ?_
  rintro e w1 ⟨rfl, hb1⟩
  dsimp only
  go_wp2_with fail
  refine (parts_any l w1 a ca (hP.later hb1) (Nat.le_trans (bulk_len l) (by omega))).mono ?_
  rintro e w2 ⟨va, rfl, hOa, hb2⟩
  dsimp only
  have hM := fixL_ok hN
  have bM : bulk (l.map fix) ≤ 20971520 := Nat.le_trans (bulk_fix l) hB
  generalize l.map fix = M at *
  obtain ⟨pm, cm, rfl, sM⟩ := hOa.sl
  have lM : M.length ≤ 20971520 := Nat.le_trans (bulk_len M) bM
  have lwM : (wt M).length ≤ 20971520 := Nat.le_trans (wt_bulk M) bM
  have hw1 := write_any M w2 pm cm sM.at' (okL_n64 hM) (by omega)
  rw [wrote_ok (okL_all hM)] at hw1
  go_wp2_with fail
  refine hw1.mono ?_
  rintro e w3 ⟨rfl, hb3⟩
  dsimp only
  go_wp2_with fail
  refine (read_own hM w3 (by omega)).mono ?_
  rintro e w4 ⟨x, rfl, oX, hb4⟩
  dsimp only
  go_wp2_with fail
  refine (read_own hM w4 (by omega)).mono ?_
  rintro e w5 ⟨y, rfl, oY, hb5⟩
  dsimp only
  have sM3 := sM.later hb3
  have HB3 : Below W.heap.size W w3 := below_seq (below_seq hb1 hb2) hb3
  have b35 : Below w3.heap.size w3 w5 := below_seq hb4 hb5
  have T5 : Tw w3.heap.size w5 x M y M := ⟨oX.later hb5, ⟨⟨oY.own.1, by
      rcases oY.own.2 with q | ⟨g, c, cur, e1, e2, e3⟩
      · exact Or.inl q
      · exact Or.inr ⟨g, c, cur, e1, Nat.le_trans hb4.size e2, e3⟩⟩, b35.size⟩, fun g hg hy => by
    have h1 := (oX.own.lt g hg).2
    have h2 := (oY.own.lt g hy).1
    omega⟩
  have lM' : M.length ≤ 1000000000000 := by omega
  obtain ⟨ax, cx, rfl, pX⟩ := T5.ox.slice
  obtain ⟨ay, cy, rfl, pY⟩ := T5.oy.slice
  have hq1 := equal_any M M w5 ax pm cx cm pX (sM3.at'.later b35) lM' lM'
  rw [same_true rfl] at hq1
  have hq2 := fun w6 (h : Below w5.heap.size w5 w6) => equal_any M M w6 ay pm cy cm (pY.later h) ((sM3.at'.later b35).later h) lM' lM'
  rw [same_true rfl] at hq2
  clear hw1 hb1 hb2 hb3 hb4 hb5 sM hOa hP oX oY hB hN pX pY
  go_wp2_with (first
    | (go_at_call 13; with_reducible refine Calls.mono hq1 ?_; rintro e w6 ⟨rfl, hb6⟩)
    | (go_at_call 13; with_reducible refine Calls.mono (hq2 _ (by assumption)) ?_; rintro e w7 ⟨rfl, hb7⟩))
  have T7 := (T5.later hb6).later hb7
  have b37 : Below w3.heap.size w3 w7 := below_seq (below_seq b35 hb6) hb7
  clear T5 b35 hb6 hb7 hq1 hq2
  generalize hBB : w3.heap.size = B at *
  go_loopw [10] (fun i wr => ∃ k : Nat, k ≤ M.length ∧ i = .int .i64 (k : Int) ∧ Tw B wr (.slice ax M.length cx) (mk q1 M k) (.slice ay M.length cy) M ∧ Below B w3 wr) (fun i _ => M.length - (intOf i).toNat)
  case atStart => exact ⟨0, by omega, rfl, by rw [mk_zero]; exact T7, b37⟩
  case round =>
    clear T7 b37
    obtain ⟨k, hk, rfl, hT, hb⟩ := hrel
    have hl := mk_len q1 M k hk
    by_cases hlt : k < M.length
    · have d1 : decide ((k : Int) < (M.length : Int)) = true := decide_eq_true (by omega)
      have k2 : (k : Int) < (M.length : Int) := by omega
      obtain ⟨g, c', e, hg1, hg2, hfr⟩ := hT.ox.form (by omega)
      injection e with e1 e2 e3
      subst e1 e3
      clear e2
      obtain ⟨p, hp⟩ : ∃ p, (mk q1 M k)[k]? = some p := ⟨_, List.getElem?_eq_getElem (by omega)⟩
      obtain ⟨a2, c2, e, pX⟩ := hT.ox.slice
      injection e with e1 e2 e3
      subst e1 e3
      clear e2
      obtain ⟨b9, o9, e, _, c0, c1, c2⟩ := pX.get k p hp
      injection e with e
      injection e with e1 e4
      subst e1 e4
      simp only [Nat.zero_add] at c0 c1 c2
      have hS : Hid (∀ w', w' = (((wr.setCell ⟨g, k * 3, none⟩ (.int .i64 q1.kind)).setCell ⟨g, k * 3 + 1, none⟩ (str q1.text)).setCell ⟨g, k * 3 + 2, none⟩ (.int .i64 q1.n)) → Tw B w' (.slice (some ⟨g, 0, none⟩) M.length cx) (mk q1 M (k + 1)) (.slice ay M.length cy) M) := ⟨fun w' hw => by
        subst hw
        rw [← mk_set q1 M k hlt]
        have hT' := hT
        rw [← hl] at hT'
        have := hT'.set k (by omega) q1
        rw [hl] at this
        exact this⟩
      clear pX hp
      go_wp2_with fail
      exact ⟨⟨k + 1, by omega, by go_num, hS.out _ rfl, ((hb.setCell (p := ⟨g, k * 3, none⟩) hg1 _).setCell (p := ⟨g, k * 3 + 1, none⟩) hg1 _).setCell (p := ⟨g, k * 3 + 2, none⟩) hg1 _⟩, by simp [intOf]; omega⟩
    · obtain rfl : k = M.length := by omega
      have d1 : decide ((M.length : Int) < (M.length : Int)) = false := decide_eq_false (by omega)
      obtain ⟨a2, c2, e, pY⟩ := hT.oy.slice
      injection e with e1 e2 e3
      subst e1 e3
      clear e2
      have hq3 := equal_any M M wr ay pm cy cm pY (sM3.at'.later (by rw [hBB]; exact hb)) lM' lM'
      rw [same_true rfl] at hq3
      rw [mk_all] at hT
      clear pY hl
      go_wp2_with (go_at_call 13; with_reducible refine Calls.mono hq3 ?_; rintro e w8 ⟨rfl, hb8⟩)
      have T8 := (hT.later hb8).symm
      have b38 : Below B w3 w8 := hb.trans (hb8.mono (by have := hb.size; omega))
      clear hT hb hb8 hq3
      obtain ⟨X1, hX1⟩ : ∃ X1, X1 = List.replicate M.length q1 := ⟨_, rfl⟩
      rw [← hX1] at T8
      have HX1 : Hid (X1 = List.replicate M.length q1) := ⟨hX1⟩
      clear hX1
      go_loopw [11] (fun i wr => ∃ k : Nat, k ≤ M.length ∧ i = .int .i64 (k : Int) ∧ Tw B wr (.slice ay M.length cy) (mk q2 M k) (.slice ax M.length cx) X1 ∧ Below B w3 wr) (fun i _ => M.length - (intOf i).toNat)
      case atStart => exact ⟨0, by omega, rfl, by rw [mk_zero]; exact T8, b38⟩
      case round =>
        clear T8 b38
        obtain ⟨k, hk, rfl, hT, hb⟩ := hrel
        have hl := mk_len q2 M k hk
        by_cases hlt : k < M.length
        · have d1 : decide ((k : Int) < (M.length : Int)) = true := decide_eq_true (by omega)
          have k2 : (k : Int) < (M.length : Int) := by omega
          obtain ⟨g, c', e, hg1, hg2, hfr⟩ := hT.ox.form (by omega)
          injection e with e1 e2 e3
          subst e1 e3
          clear e2
          obtain ⟨p, hp⟩ : ∃ p, (mk q2 M k)[k]? = some p := ⟨_, List.getElem?_eq_getElem (by omega)⟩
          obtain ⟨a2, c2, e, pX⟩ := hT.ox.slice
          injection e with e1 e2 e3
          subst e1 e3
          clear e2
          obtain ⟨b9, o9, e, _, c0, c1, c2⟩ := pX.get k p hp
          injection e with e
          injection e with e1 e4
          subst e1 e4
          simp only [Nat.zero_add] at c0 c1 c2
          have hS : Hid (∀ w', w' = (((wr.setCell ⟨g, k * 3, none⟩ (.int .i64 q2.kind)).setCell ⟨g, k * 3 + 1, none⟩ (str q2.text)).setCell ⟨g, k * 3 + 2, none⟩ (.int .i64 q2.n)) → Tw B w' (.slice (some ⟨g, 0, none⟩) M.length cy) (mk q2 M (k + 1)) (.slice ax M.length cx) X1) := ⟨fun w' hw => by
            subst hw
            rw [← mk_set q2 M k hlt]
            have hT' := hT
            rw [← hl] at hT'
            have := hT'.set k (by omega) q2
            rw [hl] at this
            exact this⟩
          clear pX hp
          go_wp2_with fail
          exact ⟨⟨k + 1, by omega, by go_num, hS.out _ rfl, ((hb.setCell (p := ⟨g, k * 3, none⟩) hg1 _).setCell (p := ⟨g, k * 3 + 1, none⟩) hg1 _).setCell (p := ⟨g, k * 3 + 2, none⟩) hg1 _⟩, by simp [intOf]; omega⟩
        · obtain rfl : k = M.length := by omega
          have d1 : decide ((M.length : Int) < (M.length : Int)) = false := decide_eq_false (by omega)
          rw [mk_all, HX1.out] at hT
          have T9 := hT.symm
          have hrl : ∀ q : Pt, (List.replicate M.length q).length ≤ 1000000000 := fun q => by simp; omega
          clear hT hl
          go_wp2_with (first
            | (refine tw_app rfl _ _ rfl ⟨-3, [], 0⟩ rfl T9 (by first | rfl | simp) (hrl _) rfl rfl ?_; intro gx cx2 w10 T10 hb10; have T10' := T10.symm)
            | (refine tw_app rfl _ _ rfl ⟨-4, [], 0⟩ rfl T10' (by first | rfl | simp) (hrl _) rfl rfl ?_; intro gy cy2 w11 T11 hb11))
          have T12 : Tw B w11 (.slice (some ⟨gx, 0, none⟩) (M.length + 1 + 0) cx2) (XL q1 ⟨-3, [], 0⟩ ⟨-5, [], 0⟩ M.length 0) (.slice (some ⟨gy, 0, none⟩) (M.length + 1 + 0) cy2) (XL q2 ⟨-4, [], 0⟩ ⟨-6, [], 0⟩ M.length 0) := by
            have := T11.symm
            simp only [List.length_replicate] at this
            exact this
          have b312 : Below B w3 w11 := (hb.trans hb10).trans hb11
          clear T9 T10 T10' T11 hb hb10 hb11 hrl HX1
          go_loopw [12, 13, 14] (fun vx vy i wr => ∃ (k gx cx gy cy : Nat), k ≤ 16 ∧ vx = .slice (some ⟨gx, 0, none⟩) (M.length + 1 + k) cx ∧ vy = .slice (some ⟨gy, 0, none⟩) (M.length + 1 + k) cy ∧ i = .int .i64 (k : Int) ∧ Tw B wr (.slice (some ⟨gx, 0, none⟩) (M.length + 1 + k) cx) (XL q1 ⟨-3, [], 0⟩ ⟨-5, [], 0⟩ M.length k) (.slice (some ⟨gy, 0, none⟩) (M.length + 1 + k) cy) (XL q2 ⟨-4, [], 0⟩ ⟨-6, [], 0⟩ M.length k) ∧ Below B w3 wr) (fun _ _ i _ => 16 - (intOf i).toNat)
          case atStart => exact ⟨0, gx, cx2, gy, cy2, by omega, rfl, rfl, rfl, T12, b312⟩
          case round =>
            clear T12 b312
            obtain ⟨k, gx, cx, gy, cy, hk, rfl, rfl, rfl, hT, hb⟩ := hrel
            have hxl : ∀ q r t, (XL q r t M.length k).length = M.length + 1 + k := fun q r t => XL_len q r t M.length k
            by_cases hlt : k < 16
            · have d1 : decide ((k : Int) < 16) = true := decide_eq_true (by omega)
              have HS : ∀ q r t, Hid (XL q r t M.length k ++ [t] = XL q r t M.length (k + 1)) := fun q r t => ⟨XL_snoc q r t M.length k⟩
              have hx1 := hxl q1 ⟨-3, [], 0⟩ ⟨-5, [], 0⟩
              have hy1 := hxl q2 ⟨-4, [], 0⟩ ⟨-6, [], 0⟩
              have HX := HS q1 ⟨-3, [], 0⟩ ⟨-5, [], 0⟩
              have HY := HS q2 ⟨-4, [], 0⟩ ⟨-6, [], 0⟩
              have lX : (XL q1 ⟨-3, [], 0⟩ ⟨-5, [], 0⟩ M.length k).length ≤ 1000000000 := by omega
              have lY : (XL q2 ⟨-4, [], 0⟩ ⟨-6, [], 0⟩ M.length k).length ≤ 1000000000 := by omega
              clear hxl HS
              generalize XL q1 ⟨-3, [], 0⟩ ⟨-5, [], 0⟩ M.length k = X at *
              generalize XL q2 ⟨-4, [], 0⟩ ⟨-6, [], 0⟩ M.length k = Y at *
              go_wp2_with (first
                | (refine tw_app rfl _ _ rfl ⟨-5, [], 0⟩ rfl hT (by first | rfl | simp) lX rfl rfl ?_; intro gx2 cx2 w10 T10 hb10; have T10' := T10.symm)
                | (refine tw_app rfl _ _ rfl ⟨-6, [], 0⟩ rfl T10' (by first | rfl | simp) lY rfl rfl ?_; intro gy2 cy2 w11 T11 hb11))
              have T12 := T11.symm
              rw [HX.out, HY.out, hx1, hy1] at T12
              exact ⟨⟨k + 1, gx2, cx2, gy2, cy2, by omega, rfl, rfl, by go_num, T12, (hb.trans hb10).trans hb11⟩, by simp [intOf]; omega⟩
            · obtain rfl : k = 16 := by omega
              have d1 : decide ((16 : Int) < 16) = false := by decide
              clear hxl
              go_wp2_with fail
              refine (read_own hM wr (by omega)).mono ?_
              rintro e w13 ⟨vc, rfl, oC, hb13⟩
              dsimp only
              have T13 := hT.later hb13
              have b313 : Below B w3 w13 := hb.trans (hb13.mono (by have := hb.size; omega))
              obtain ⟨ac, cc, rfl, pC⟩ := oC.slice
              have hpx : ∀ w, Below w13.heap.size w13 w → ∀ i p, (XL q1 ⟨-3, [], 0⟩ ⟨-5, [], 0⟩ M.length 16)[i]? = some p → w.cell? ⟨gx, i * 3, none⟩ = some (.int .i64 p.kind) := by
                intro w hw i p hp
                obtain ⟨a9, c9, e9, p9⟩ := (T13.later hw).ox.slice
                injection e9 with e1 _ _
                obtain ⟨b9, o9, e8, _, c0, _⟩ := p9.get i p hp
                rw [← e1] at e8
                injection e8 with e8
                injection e8 with e1 e4
                subst e1 e4
                rw [Nat.zero_add] at c0
                exact c0
              have hpy : ∀ w, Below w13.heap.size w13 w → ∀ i p, (XL q2 ⟨-4, [], 0⟩ ⟨-6, [], 0⟩ M.length 16)[i]? = some p → w.cell? ⟨gy, i * 3, none⟩ = some (.int .i64 p.kind) := by
                intro w hw i p hp
                obtain ⟨a9, c9, e9, p9⟩ := (T13.later hw).oy.slice
                injection e9 with e1 _ _
                obtain ⟨b9, o9, e8, _, c0, _⟩ := p9.get i p hp
                rw [← e1] at e8
                injection e8 with e8
                injection e8 with e1 e4
                subst e1 e4
                rw [Nat.zero_add] at c0
                exact c0
              have HPX : Hid (∀ w, Below w13.heap.size w13 w → ∀ i p, (XL q1 ⟨-3, [], 0⟩ ⟨-5, [], 0⟩ M.length 16)[i]? = some p → w.cell? ⟨gx, i * 3, none⟩ = some (.int .i64 p.kind)) := ⟨hpx⟩
              have HPY : Hid (∀ w, Below w13.heap.size w13 w → ∀ i p, (XL q2 ⟨-4, [], 0⟩ ⟨-6, [], 0⟩ M.length 16)[i]? = some p → w.cell? ⟨gy, i * 3, none⟩ = some (.int .i64 p.kind)) := ⟨hpy⟩
              have hqc := fun w (h : Below w13.heap.size w13 w) => equal_any M M w ac pm cc cm (pC.later h) ((sM3.at'.later (by rw [hBB]; exact b313)).later h) lM' lM'
              rw [same_true rfl] at hqc
              have HQC : Hid (∀ w, Below w13.heap.size w13 w → Calls Try.prog 13 #[.slice ac M.length cc, .slice pm M.length cm] w fun e w' => e = .returned (.bool true) ∧ Below w.heap.size w w') := ⟨hqc⟩
              have HBW : Below W.heap.size W w13 := below_seq HB3 (by rw [hBB]; exact b313)
              clear hpx hpy hqc hT hb hb13 T13 oC pC b313
              go_wp2_with fail
              go_loopw [17] (fun i wr => ∃ k : Nat, k ≤ M.length ∧ i = .int .i64 (k : Int) ∧ Below w13.heap.size w13 wr) (fun i _ => M.length - (intOf i).toNat)
              case atStart => exact ⟨0, by omega, rfl, Below.refl _ _⟩
              case round =>
                obtain ⟨k, hk, rfl, hb⟩ := hrel
                by_cases hlt : k < M.length
                · have d1 : decide ((k : Int) < (M.length : Int)) = true := decide_eq_true (by omega)
                  have k2 : (k : Int) < (M.length : Int) + 17 := by omega
                  have cX : wr.cell? ⟨gx, k * 3, none⟩ = some (.int .i64 (-1)) := HPX.out wr hb k q1 (XL_lo _ _ _ _ _ _ hlt)
                  have cY : wr.cell? ⟨gy, k * 3, none⟩ = some (.int .i64 (-2)) := HPY.out wr hb k q2 (XL_lo _ _ _ _ _ _ hlt)
                  go_wp2_with fail
                  exact ⟨⟨k + 1, by omega, by go_num, hb⟩, by simp [intOf]; omega⟩
                · obtain rfl : k = M.length := by omega
                  have d1 : decide ((M.length : Int) < (M.length : Int)) = false := decide_eq_false (by omega)
                  go_wp2_with fail
                  go_loopw [18] (fun i wx => ∃ k : Nat, 1 ≤ k ∧ k ≤ 17 ∧ i = .int .i64 (k : Int) ∧ Below w13.heap.size w13 wx) (fun i _ => 17 - (intOf i).toNat)
                  case atStart => exact ⟨1, by omega, by omega, rfl, hb⟩
                  case round =>
                    clear hb
                    obtain ⟨k, hk1, hk, rfl, hb⟩ := hrel
                    by_cases hlt : k < 17
                    · have d1 : decide ((k : Int) < 17) = true := decide_eq_true (by omega)
                      have k0 : (0 : Int) ≤ (M.length : Int) + (k : Int) := by omega
                      have k2 : (M.length : Int) + (k : Int) < (M.length : Int) + 17 := by omega
                      have k3 : IntKind.i64.wrap ((M.length : Int) + (k : Int)) = (M.length : Int) + (k : Int) := by rw [IntKind.wrap_i64]; omega
                      have k4 : ((M.length : Int) + (k : Int)).toNat = M.length + k := by omega
                      have cX : wr.cell? ⟨gx, (M.length + k) * 3, none⟩ = some (.int .i64 (-5)) := HPX.out wr hb (M.length + k) ⟨-5, [], 0⟩ (XL_hi _ _ _ _ _ _ hk1 (by omega))
                      have cY : wr.cell? ⟨gy, (M.length + k) * 3, none⟩ = some (.int .i64 (-6)) := HPY.out wr hb (M.length + k) ⟨-6, [], 0⟩ (XL_hi _ _ _ _ _ _ hk1 (by omega))
                      go_wp2_with fail
                      exact ⟨⟨k + 1, by omega, by omega, by go_num, hb⟩, by simp [intOf]; omega⟩
                    · obtain rfl : k = 17 := by omega
                      have d1 : decide ((17 : Int) < 17) = false := by decide
                      have k2 : (M.length : Int) < (M.length : Int) + 17 := by omega
                      have cX : wr.cell? ⟨gx, M.length * 3, none⟩ = some (.int .i64 (-3)) := HPX.out wr hb M.length ⟨-3, [], 0⟩ (XL_mid _ _ _ _ _)
                      have cY : wr.cell? ⟨gy, M.length * 3, none⟩ = some (.int .i64 (-4)) := HPY.out wr hb M.length ⟨-4, [], 0⟩ (XL_mid _ _ _ _ _)
                      go_wp2_with fail
                      refine (HQC.out _ hb).mono ?_
                      rintro e w14 ⟨rfl, hb14⟩
                      dsimp only
                      go_wp2_with fail
                      go_ret
                      exact ⟨rfl, below_seq (below_seq HBW hb) hb14⟩
end Go.Proofs.Ytijkabnhedmimaa
