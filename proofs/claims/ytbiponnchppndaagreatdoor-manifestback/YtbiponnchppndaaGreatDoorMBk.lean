/- ManifestBack: the walk. -/
import Derived.Test.YtbiponnchppndaaGreatDoorMBm
namespace Go.Proofs.YtbiponnchppndaaGreatDoor
set_option maxRecDepth 100000
set_option linter.unusedVariables false
set_option linter.unusedSimpArgs false
open Go.RowKit
open Go.Proofs.YtbiponnchppndaaGreatDoorP (TB)
open Go.Proofs.YtbiponnchppndaaGreatDoorH (hv hv_length hv_one hv_eq KIn)
attribute [local go_sem ↓] Go.wp_at_zero Go.wp_at_succ ad9 Go.Proofs.YtbiponnchppndaaGreatDoorP.sl9
theorem w64n (j : Nat) (h : j ≤ 6000000000) : wrap64 (-(j : Int)) = -(j : Int) := by unfold wrap64; omega
theorem rt_pairs {m : Ma} (h : RtM m) {x : It} (hx : x ∈ m.items) : x.l.length ≤ 4398046510976 := by
  have h1 := h.it x hx
  cases hm : x.mkr with
  | true => rw [(h1.mk1 hm).2]; simp
  | false => have := (mtE_iff (h1.mk0 hm).2.2).1; omega
set_option maxHeartbeats 8000000 in
theorem back_walk (m : Ma) (w : World) (a : Option Addr) (cap : Nat) (hL : IIt w a m.items) (hz : ∀ x ∈ m.items, x.l.length ≤ 4398046510976) (hl : m.items.length ≤ 1466015503658) (bh : List UInt8) (hbh : bh.length ≤ 140737488351232) (x : Int) (b : List UInt8) (hb : b.length ≤ 140737488351232) (hT : TB w) (hE : EG w) (hK : KIn w) :
    Calls Tryz.prog 5 #[.agg #[.int .i64 m.since, .int .i64 m.next, .slice a m.items.length cap], str bh, .int .i64 x, str b] w fun e w' => e = .returned (.bool true) ∧ Below w.heap.size w w' := by
  have b1 := (Below.refl w.heap.size w).alloc (Nat.le_refl _) (.cells #[.int .i64 m.since, .int .i64 m.next, .slice a m.items.length cap] 24)
  have z1 := Bn3.new w m.since m.next (.slice a m.items.length cap)
  have hhd := head_any _ (hT.below b1) (hE.below b1) (hK.seq b1)
  go_enter Tryz.func5, Tryz.ntmps5
  go_wp2_with fail
  refine Calls.mono hhd ?_
  rintro e w2 ⟨rfl, b2⟩
  have B2 := below_seq b1 b2
  have z2 := z1.later b2
  clear hhd b1 b2 z1
  dsimp only
  obtain ⟨p0, p1, p2⟩ := z2.cells
  go_wp2_with fail
  refine Calls.mono (own_any m w2 a cap (hL.later B2) hz hl) ?_
  rintro e w3 ⟨R, ra, rc, rfl, hR, hM, b3⟩
  have B3 := below_seq B2 b3
  have hRl : R.length = m.items.length := by rw [← hR, List.length_map]
  have b4 := (Below.refl w3.heap.size w3).alloc (Nat.le_refl _) (.cells #[.int .i64 m.since, .int .i64 m.next, .slice ra m.items.length rc] 28)
  have z4 := Bm3.new w3 m.since m.next (.slice ra m.items.length rc)
  have i4 := hM.it.later b4
  rw [hR] at i4
  have B4 := below_seq B3 b4
  have y4 := (z2.later b3).later b4
  obtain ⟨q0, q1, q2⟩ := z4.cells
  rw [hRl]
  clear z2 p0 p1 p2 hM hR hRl b3 b4 B2 B3
  dsimp only
  go_wp2_with fail
  generalize w3.alloc (.cells #[.int .i64 m.since, .int .i64 m.next, .slice ra m.items.length rc] 28) = W4 at *
  generalize w3.heap.size = g4 at *
  refine Calls.mono (mWrite_any m W4 ra rc i4 hz (by omega) (hT.below B4)) ?_
  rintro e w5 ⟨h5, b5⟩
  have B5 := below_seq B4 b5
  have y5 := y4.later b5
  clear z4 q0 q1 q2 i4 y4 b5 B4
  rcases h5 with ⟨hr, rfl⟩ | ⟨hr, rfl⟩
  · have hmle := mtx_le hr
    have hmp := mtx_pos m
    have had := fun w => run_ad (mtx m) bh (by omega) w
    have hbm : Beg (mtx m ++ bh) m := ⟨hr, bh, rfl⟩
    dsimp only
    go_wp2_with fail
    refine Calls.mono (mRead_any (mtx m ++ bh) w5 (by rw [List.length_append]; omega) (hT.below B5) (hE.below B5)) ?_
    rintro e w6 ⟨h6, b6⟩
    have B6 := below_seq B5 b6
    rcases h6 with ⟨n, R', ra', rc', hbg, hnz, rfl, hR', hF'⟩ | ⟨h6, _⟩
    case inr => exact absurd hbm (h6 m)
    obtain rfl : n = nzM m := by rw [← hnz]; exact (hbg.two hbm).1
    have hl' : R'.length = m.items.length := by have := congrArg List.length hR'; simpa [nzM] using this
    rw [hl', mtx_nz]
    have hnl : (nzM m).items.length = m.items.length := by simp [nzM]
    have b7 := (Below.refl w6.heap.size w6).alloc (Nat.le_refl _) (.cells #[.int .i64 m.since, .int .i64 m.next, .slice ra' m.items.length rc'] 28)
    have z7 := Bm3.new w6 m.since m.next (.slice ra' m.items.length rc')
    have i7 := hF'.it.later b7
    rw [hR'] at i7
    have B7 := below_seq B6 b7
    have y7 := (y5.later b6).later b7
    clear hF' hR' hl' b6 b7 hbg hnz B6 y5 had
    have hs : (nzM m).since = m.since ∧ (nzM m).next = m.next := ⟨rfl, rfl⟩
    rw [hs.1, hs.2]
    dsimp only
    go_wp2_with fail
    generalize w6.alloc (.cells #[.int .i64 m.since, .int .i64 m.next, .slice ra' m.items.length rc'] 28) = W7 at *
    generalize w6.heap.size = g7 at *
    have XC : Hid (∀ w', Below W7.heap.size W7 w' → Below W7.heap.size W7 w' ∧ w'.cell? ⟨g7, 0, none⟩ = some (.int .i64 m.since) ∧ w'.cell? ⟨g7, 1, none⟩ = some (.int .i64 m.next) ∧ w'.cell? ⟨g7, 2, none⟩ = some (.slice ra' m.items.length rc') ∧ w'.cell? ⟨w.heap.size, 0, none⟩ = some (.int .i64 m.since) ∧ w'.cell? ⟨w.heap.size, 1, none⟩ = some (.int .i64 m.next) ∧ w'.cell? ⟨w.heap.size, 2, none⟩ = some (.slice a m.items.length cap)) := ⟨fun w' h => by
      obtain ⟨u0, u1, u2⟩ := (z7.later h).cells
      obtain ⟨v0, v1, v2⟩ := (y7.later h).cells
      exact ⟨h, u0, u1, u2, v0, v1, v2⟩⟩
    have hdo := doc_any (nzM m) W7.drew ra' rc' (i7.later (Below.refl _ _).drew) (by rw [hnl]; exact hl)
    rw [hs.1, hs.2, hnl] at hdo
    have hdo : Calls Tryz.prog 24 #[.agg #[.int .i64 m.since, .int .i64 m.next, .slice ra' m.items.length rc']] W7.drew fun e w' => ∃ da dc, e = .returned (.agg #[.int .i64 m.since, .int .i64 m.next, .slice da m.items.length dc]) ∧ IIt w' da (nzM m).items ∧ Below W7.drew.heap.size W7.drew w' := hdo.mono (by rintro e w9 ⟨da, dc, rfl, di, b9⟩; exact ⟨da, dc, by rw [hnl]; rfl, di, b9⟩)
    have HL := Hid.mk (hL.later B7)
    have HZ : Hid (∀ x ∈ (nzM m).items, x.l.length ≤ 4398046510976) := ⟨fun x hx => by
      obtain ⟨y, hy, rfl⟩ := List.mem_map.1 hx
      exact hz y hy⟩
    have HBd : Hid (Below W7.heap.size W7 W7.drew) := ⟨(Below.refl _ _).drew⟩
    have hne : (mtx m == []) = false := beq_eq_false_iff_ne.2 mtx_ne
    have hne' : mtx m ≠ [] := mtx_ne
    have HBT := Hid.mk B7
    clear z7 y7 i7 B7
    go_region_held3 (fun w' => Below W7.heap.size W7 w' ∧ w'.cell? ⟨g7, 0, none⟩ = some (.int .i64 m.since) ∧ w'.cell? ⟨g7, 1, none⟩ = some (.int .i64 m.next) ∧ w'.cell? ⟨g7, 2, none⟩ = some (.slice ra' m.items.length rc') ∧ w'.cell? ⟨w.heap.size, 0, none⟩ = some (.int .i64 m.since) ∧ w'.cell? ⟨w.heap.size, 1, none⟩ = some (.int .i64 m.next) ∧ w'.cell? ⟨w.heap.size, 2, none⟩ = some (.slice a m.items.length cap)) (first
      | exact XC.out _ HBd.out
      | exact XC.out _ (below_seq HBd.out b9)
      | exact XC.out _ (below_seq (below_seq HBd.out b9) b10)) (first
      | (go_at_call 24; with_reducible refine Calls.mono hdo ?_; rintro e w9 ⟨da, dc, rfl, di, b9⟩; have hsm := qSame_any (nzM m) m w9 da a dc cap di (HL.out.later (below_seq HBd.out b9)) HZ.out (by rw [hnl]; omega); rw [hs.1, hs.2, hnl] at hsm; have hsm : Calls Tryz.prog 23 #[.agg #[.int .i64 m.since, .int .i64 m.next, .slice da m.items.length dc], .agg #[.int .i64 m.since, .int .i64 m.next, .slice a m.items.length cap]] w9 fun e w' => e = .returned (.bool true) ∧ Below w9.heap.size w9 w' := hsm.mono (by rintro e w10 ⟨t10, rfl, ht10, b10⟩; exact ⟨by rw [ht10.2 (sam_nz m)], b10⟩))
      | (go_at_call 23; with_reducible refine Calls.mono hsm ?_; rintro e w10 ⟨rfl, b10⟩))
    have B10 := below_seq HBT.out (below_seq (below_seq HBd.out b9) b10)
    obtain ⟨j, hj, hcase⟩ := tm_lt x hmp
    have htk := fun w => run_take (mtx m) j (by omega) w
    have hnb : ∀ n, ¬ Beg ((mtx m).take j) n := fun n => Beg.cut hr hj
    have hlj : ((mtx m).take j).length ≤ 4611686018427387904 := by rw [List.length_take]; omega
    have hwj : wrap64 (j : Int) = (j : Int) := by unfold wrap64; omega
    have hn0 : ¬ ((mtx m).length : Int) = 0 := by omega
    have hn0' : ¬ (mtx m).length = 0 := by omega
    clear XC hdo HL HZ HBd b9 b10 hne hne' HBT hbm di hsm
    rcases hcase with ⟨hx1, hx2⟩ | ⟨hx1, hx2⟩
    · rw [hx1] at hx2
      have hd1 : decide ((j : Int) < 0) = false := decide_eq_false hx2
      go_wp2_with fail
      refine Calls.mono (mRead_any ((mtx m).take j) w10 hlj (hT.below B10) (hE.below B10)) ?_
      rintro e w11 ⟨h11, b11⟩
      rcases h11 with ⟨n, _, _, _, hbg, _⟩ | ⟨_, rfl⟩
      case inl => exact absurd hbg (hnb n)
      have B11 := below_seq B10 b11
      have b12 := (Below.refl w11.heap.size w11).alloc (Nat.le_refl _) (.cells #[.int .i64 0, .int .i64 0, .slice none 0 0] 28)
      have z12 := Bm3.new w11 0 0 (.slice none 0 0)
      have BT := below_seq B11 b12
      obtain ⟨s0, s1, s2⟩ := z12.cells
      clear b11 B10 B11 b12 z12 htk hnb hlj
      dsimp only
      go_wp2_with fail
      refine Calls.mono (mRead_any b _ (by omega) (hT.below BT) (hE.below BT)) ?_
      rintro e w20 ⟨h20, b20⟩
      have B20 := below_seq BT b20
      rcases h20 with ⟨n, R', ra', rc', hbg, hnz, rfl, hR', hF'⟩ | ⟨_, rfl⟩
      · have hl' : R'.length = n.items.length := by rw [← hR', List.length_map]
        rw [hl']
        have b21 := (Below.refl w20.heap.size w20).alloc (Nat.le_refl _) (.cells #[.int .i64 n.since, .int .i64 n.next, .slice ra' n.items.length rc'] 28)
        have z21 := Bm3.new w20 n.since n.next (.slice ra' n.items.length rc')
        have i21 := hF'.it.later b21
        rw [hR'] at i21
        have B21 := below_seq B20 b21
        obtain ⟨r0, r1, r2⟩ := z21.cells
        have hle : (mtx n).length ≤ b.length := by obtain ⟨_, r, e⟩ := hbg; rw [e]; simp
        have hpos : 0 < (mtx n).length := mtx_pos n
        have tk := fun w => run_take b (mtx n).length hle w
        rw [hbg.take] at tk
        have d1 : decide (0 < ((mtx n).length : Int)) = true := decide_eq_true (by omega)
        have d2 : decide (((mtx n).length : Int) ≤ (b.length : Int)) = true := decide_eq_true (by omega)
        have d3 : (mtx n == mtx n) = true := by simp
        have hpr : ∀ x ∈ n.items, x.l.length ≤ 4398046510976 := fun x hx => rt_pairs hbg.1 hx
        have hln := hbg.1.len
        have hwr := mWrite_any n _ ra' rc' i21 hpr (by omega) (hT.below B21)
        have hrn := hbg.1
        clear z21 i21 hF' hR' hl' b20 b21 hbg hnz B20 hpr hln
        dsimp only
        go_wp2_with fail
        refine Calls.mono hwr ?_
        rintro e w22 ⟨h22, b22⟩
        have B22 := below_seq B21 b22
        rcases h22 with ⟨_, rfl⟩ | ⟨h, _⟩
        case inr => exact absurd hrn h
        clear hwr r0 r1 r2 b22 B21
        dsimp only
        go_wp2_with fail
        go_ret
        exact ⟨rfl, B22⟩
      · have b21 := (Below.refl w20.heap.size w20).alloc (Nat.le_refl _) (.cells #[.int .i64 0, .int .i64 0, .slice none 0 0] 28)
        have B21 := below_seq B20 b21
        dsimp only
        go_wp2_with fail
        go_ret
        exact ⟨rfl, B21⟩
    · have hny : -(x.tmod ((mtx m).length : Int)) = (j : Int) := by rw [hx1, Int.neg_neg]
      have hwy : wrap64 (x.tmod ((mtx m).length : Int)) = x.tmod ((mtx m).length : Int) := by rw [hx1]; exact w64n j (Nat.le_of_lt (Nat.lt_of_lt_of_le hj hmle))
      clear hx1
      obtain ⟨y, hy⟩ : ∃ y, x.tmod ((mtx m).length : Int) = y := ⟨_, rfl⟩
      rw [hy] at hny hwy hx2
      have hd1 : decide (y < 0) = true := decide_eq_true hx2
      go_wp2_with fail
      refine Calls.mono (mRead_any ((mtx m).take j) w10 hlj (hT.below B10) (hE.below B10)) ?_
      rintro e w11 ⟨h11, b11⟩
      rcases h11 with ⟨n, _, _, _, hbg, _⟩ | ⟨_, rfl⟩
      case inl => exact absurd hbg (hnb n)
      have B11 := below_seq B10 b11
      have b12 := (Below.refl w11.heap.size w11).alloc (Nat.le_refl _) (.cells #[.int .i64 0, .int .i64 0, .slice none 0 0] 28)
      have z12 := Bm3.new w11 0 0 (.slice none 0 0)
      have BT := below_seq B11 b12
      obtain ⟨s0, s1, s2⟩ := z12.cells
      clear b11 B10 B11 b12 z12 htk hnb hlj
      dsimp only
      go_wp2_with fail
      refine Calls.mono (mRead_any b _ (by omega) (hT.below BT) (hE.below BT)) ?_
      rintro e w20 ⟨h20, b20⟩
      have B20 := below_seq BT b20
      rcases h20 with ⟨n, R', ra', rc', hbg, hnz, rfl, hR', hF'⟩ | ⟨_, rfl⟩
      · have hl' : R'.length = n.items.length := by rw [← hR', List.length_map]
        rw [hl']
        have b21 := (Below.refl w20.heap.size w20).alloc (Nat.le_refl _) (.cells #[.int .i64 n.since, .int .i64 n.next, .slice ra' n.items.length rc'] 28)
        have z21 := Bm3.new w20 n.since n.next (.slice ra' n.items.length rc')
        have i21 := hF'.it.later b21
        rw [hR'] at i21
        have B21 := below_seq B20 b21
        obtain ⟨r0, r1, r2⟩ := z21.cells
        have hle : (mtx n).length ≤ b.length := by obtain ⟨_, r, e⟩ := hbg; rw [e]; simp
        have hpos : 0 < (mtx n).length := mtx_pos n
        have tk := fun w => run_take b (mtx n).length hle w
        rw [hbg.take] at tk
        have d1 : decide (0 < ((mtx n).length : Int)) = true := decide_eq_true (by omega)
        have d2 : decide (((mtx n).length : Int) ≤ (b.length : Int)) = true := decide_eq_true (by omega)
        have d3 : (mtx n == mtx n) = true := by simp
        have hpr : ∀ x ∈ n.items, x.l.length ≤ 4398046510976 := fun x hx => rt_pairs hbg.1 hx
        have hln := hbg.1.len
        have hwr := mWrite_any n _ ra' rc' i21 hpr (by omega) (hT.below B21)
        have hrn := hbg.1
        clear z21 i21 hF' hR' hl' b20 b21 hbg hnz B20 hpr hln
        dsimp only
        go_wp2_with fail
        refine Calls.mono hwr ?_
        rintro e w22 ⟨h22, b22⟩
        have B22 := below_seq B21 b22
        rcases h22 with ⟨_, rfl⟩ | ⟨h, _⟩
        case inr => exact absurd hrn h
        clear hwr r0 r1 r2 b22 B21
        dsimp only
        go_wp2_with fail
        go_ret
        exact ⟨rfl, B22⟩
      · have b21 := (Below.refl w20.heap.size w20).alloc (Nat.le_refl _) (.cells #[.int .i64 0, .int .i64 0, .slice none 0 0] 28)
        have B21 := below_seq B20 b21
        dsimp only
        go_wp2_with fail
        go_ret
        exact ⟨rfl, B21⟩
  · have BT := B5
    dsimp only
    go_wp2_with fail
    refine Calls.mono (mRead_any b _ (by omega) (hT.below BT) (hE.below BT)) ?_
    rintro e w20 ⟨h20, b20⟩
    have B20 := below_seq BT b20
    rcases h20 with ⟨n, R', ra', rc', hbg, hnz, rfl, hR', hF'⟩ | ⟨_, rfl⟩
    · have hl' : R'.length = n.items.length := by rw [← hR', List.length_map]
      rw [hl']
      have b21 := (Below.refl w20.heap.size w20).alloc (Nat.le_refl _) (.cells #[.int .i64 n.since, .int .i64 n.next, .slice ra' n.items.length rc'] 28)
      have z21 := Bm3.new w20 n.since n.next (.slice ra' n.items.length rc')
      have i21 := hF'.it.later b21
      rw [hR'] at i21
      have B21 := below_seq B20 b21
      obtain ⟨r0, r1, r2⟩ := z21.cells
      have hle : (mtx n).length ≤ b.length := by obtain ⟨_, r, e⟩ := hbg; rw [e]; simp
      have hpos : 0 < (mtx n).length := mtx_pos n
      have tk := fun w => run_take b (mtx n).length hle w
      rw [hbg.take] at tk
      have d1 : decide (0 < ((mtx n).length : Int)) = true := decide_eq_true (by omega)
      have d2 : decide (((mtx n).length : Int) ≤ (b.length : Int)) = true := decide_eq_true (by omega)
      have d3 : (mtx n == mtx n) = true := by simp
      have hpr : ∀ x ∈ n.items, x.l.length ≤ 4398046510976 := fun x hx => rt_pairs hbg.1 hx
      have hln := hbg.1.len
      have hwr := mWrite_any n _ ra' rc' i21 hpr (by omega) (hT.below B21)
      have hrn := hbg.1
      clear z21 i21 hF' hR' hl' b20 b21 hbg hnz B20 hpr hln
      dsimp only
      go_wp2_with fail
      refine Calls.mono hwr ?_
      rintro e w22 ⟨h22, b22⟩
      have B22 := below_seq B21 b22
      rcases h22 with ⟨_, rfl⟩ | ⟨h, _⟩
      case inr => exact absurd hrn h
      clear hwr r0 r1 r2 b22 B21
      dsimp only
      go_wp2_with fail
      go_ret
      exact ⟨rfl, B22⟩
    · have b21 := (Below.refl w20.heap.size w20).alloc (Nat.le_refl _) (.cells #[.int .i64 0, .int .i64 0, .slice none 0 0] 28)
      have B21 := below_seq B20 b21
      dsimp only
      go_wp2_with fail
      go_ret
      exact ⟨rfl, B21⟩
end Go.Proofs.YtbiponnchppndaaGreatDoor
