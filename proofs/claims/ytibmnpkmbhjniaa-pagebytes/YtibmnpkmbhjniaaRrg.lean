/- The document's Read of 512 bytes. -/
import Derived.Test.YtibmnpkmbhjniaaRrd
import Derived.Deep.RegionLaw
namespace Go.Proofs.Ytibmnpkmbhjniaa
set_option linter.unusedVariables false
set_option linter.unusedSimpArgs false
open Go.RowKit
attribute [local go_sem ↓] Go.wp_at_zero Go.wp_at_succ
attribute [local go_sem ↓] sl9 ix9
theorem ow_set1 {w : World} {v : Value} {l : List En} {R j : Nat} {a : Value} (h : Ow (R + 1) w v l) : Ow (R + 1) (w.setCell ⟨R, j, none⟩ a) v l := by
  have hy : v.ownBlock ≠ some R := fun q => by have := (h.own.lt _ q).1; omega
  exact ⟨ownsRow_setCell_other h.own (a := ⟨R, _, none⟩) hy _, by simpa using h.le⟩
theorem ow_setl {w : World} {v : Value} {l : List En} {B R j : Nat} {a : Value} (h : Ow B w v l) (hR : R < B) : Ow B (w.setCell ⟨R, j, none⟩ a) v l := by
  have hy : v.ownBlock ≠ some R := fun q => by have := (h.own.lt _ q).1; omega
  exact ⟨ownsRow_setCell_other h.own (a := ⟨R, _, none⟩) hy _, by simpa using h.le⟩
theorem rdv_512 (b : List UInt8) (h : b.length = 512) : rdv b = (rde (num2 b 3) (b.drop 5)).bind fun l => if flt ((b.getD 0 0).toNat : Int) (num2 b 1 : Int) l = 0 ∧ blk ((b.getD 0 0).toNat : Int) (num2 b 1 : Int) l = b then some (((b.getD 0 0).toNat : Int), (num2 b 1 : Int), l) else none := by
  unfold rdv
  rw [if_pos h]
  cases rde (num2 b 3) (b.drop 5) <;> rfl
/-- nothing was read -/
theorem zero_end {w wr : World} {RV : Option (Int × Int × List En)} {A : Act} (hd : A.defers = []) (h2 : A.tmps.getD 2 undef = .pointer (some ⟨w.heap.size, 0, none⟩)) (h3 : A.tmps.getD 3 undef = .int .i64 4) (hb : Below w.heap.size w wr) (hk : wr.heap[w.heap.size]? = some (.cells #[.int .i64 0, .int .i64 0, .slice none 0 0] 57 (0, 0))) (hR : RV = none) :
    bodyPost Try.prog Try.f26 (ReadP w RV) .ret A (((wr.setCell ⟨w.heap.size, 0, none⟩ (.int .i64 0)).setCell ⟨w.heap.size, 1, none⟩ (.int .i64 0)).setCell ⟨w.heap.size, 2, none⟩ (.slice none 0 0)) := by
  have h3' := set3 (a' := .int .i64 0) (b' := .int .i64 0) (c' := .slice none 0 0) hk
  obtain ⟨g0, g1, g2⟩ := box3 h3'
  have HB2 := below_set3 (a := .int .i64 0) (b := .int .i64 0) (c := .slice none 0 0) hb
  generalize ((wr.setCell ⟨w.heap.size, 0, none⟩ (.int .i64 0)).setCell ⟨w.heap.size, 1, none⟩ (.int .i64 0)).setCell ⟨w.heap.size, 2, none⟩ (.slice none 0 0) = w9 at *
  refine bodyPost_ret (v := .tuple #[pgv 0 0 (.slice none 0 0), .int .i64 4]) ?_ hd (by rw [hR]; exact ⟨HB2, rfl⟩)
  rw [results_cell_tmp rfl, h2, h3]
  go_simp
set_option maxHeartbeats 4000000 in
theorem rRead_good (b : List UInt8) (w : World) (h5 : b.length = 512) :
    Calls Try.prog 26 #[str b] w (ReadP w (rdv b)) := by
  have d0 : ((b.length : Int) != 512) = false := by rw [bne_eq_false_iff_eq]; omega
  have i0 : ∀ w, (ixS (str b) (.int .i64 0)).run Try.prog w = .ok (.int .u8 ((b.getD 0 0).toNat : Int)) w := run_ix b 0 (by omega)
  have i1 : ∀ w, (ixS (str b) (.int .i64 1)).run Try.prog w = .ok (.int .u8 ((b.getD 1 0).toNat : Int)) w := run_ix b 1 (by omega)
  have i2 : ∀ w, (ixS (str b) (.int .i64 2)).run Try.prog w = .ok (.int .u8 ((b.getD 2 0).toNat : Int)) w := run_ix b 2 (by omega)
  have i3 : ∀ w, (ixS (str b) (.int .i64 3)).run Try.prog w = .ok (.int .u8 ((b.getD 3 0).toNat : Int)) w := run_ix b 3 (by omega)
  have i4 : ∀ w, (ixS (str b) (.int .i64 4)).run Try.prog w = .ok (.int .u8 ((b.getD 4 0).toNat : Int)) w := run_ix b 4 (by omega)
  have H5 : Hid (b.length = 512) := ⟨h5⟩
  have HV := Hid.mk (rdv_512 b h5)
  have N1d : bits BinOp.or IntKind.i64 (((b.getD 1 0).toNat : Int) * 256) ((b.getD 2 0).toNat : Int) = (num2 b 1 : Int) := or8 _ _ (b.getD 1 0).toNat_lt
  have N3d : bits BinOp.or IntKind.i64 (((b.getD 3 0).toNat : Int) * 256) ((b.getD 4 0).toNat : Int) = (num2 b 3 : Int) := or8 _ _ (b.getD 3 0).toNat_lt
  have hN3 := num2_le b 3
  have hN1 := num2_le b 1
  generalize num2 b 1 = N1 at *
  generalize num2 b 3 = N3 at *
  generalize b.getD 0 0 = c0 at *
  generalize b.getD 1 0 = c1 at *
  generalize b.getD 2 0 = c2 at *
  generalize b.getD 3 0 = c3 at *
  generalize b.getD 4 0 = c4 at *
  have hc0 := c0.toNat_lt
  have hc1 := c1.toNat_lt
  have hc2 := c2.toNat_lt
  have hc3 := c3.toNat_lt
  have hc4 := c4.toNat_lt
  generalize rdv b = RV at *
  clear h5
  go_enter Try.func26, Try.ntmps26
  go_wp2_with fail
  have hw0 : IntKind.i64.wrap (c0.toNat : Int) = (c0.toNat : Int) := by rw [IntKind.wrap_i64]; omega
  have hw1 : IntKind.i64.wrap (c1.toNat : Int) = (c1.toNat : Int) := by rw [IntKind.wrap_i64]; omega
  have hw2 : IntKind.i64.wrap (c2.toNat : Int) = (c2.toNat : Int) := by rw [IntKind.wrap_i64]; omega
  have hw3 : IntKind.i64.wrap ((c1.toNat : Int) * 256) = (c1.toNat : Int) * 256 := by rw [IntKind.wrap_i64]; omega
  go_region
  have K2 : ((w.alloc (.cells #[.int .i64 0, .int .i64 0, .slice none 0 0] 57)).alloc (.cells #[.int .i64 (c0.toNat : Int), .int .i64 (N1 : Int), .slice none 0 0] 57)).drew.heap[w.heap.size]? = some (.cells #[.int .i64 0, .int .i64 0, .slice none 0 0] 57 (0, 0)) := by
    show ((w.alloc _).alloc _).heap[w.heap.size]? = _
    rw [heap_alloc_old _ _ (by simp)]; exact heap_alloc_new _ _
  have K4 : ((w.alloc (.cells #[.int .i64 0, .int .i64 0, .slice none 0 0] 57)).alloc (.cells #[.int .i64 (c0.toNat : Int), .int .i64 (N1 : Int), .slice none 0 0] 57)).drew.heap[w.heap.size + 1]? = some (.cells #[.int .i64 (c0.toNat : Int), .int .i64 (N1 : Int), .slice none 0 0] 57 (0, 0)) := by
    have := heap_alloc_new (w.alloc (.cells #[.int .i64 0, .int .i64 0, .slice none 0 0] 57)) (.cells #[.int .i64 (c0.toNat : Int), .int .i64 (N1 : Int), .slice none 0 0] 57)
    simp only [World.size_alloc] at this
    exact this
  have B4 : Below w.heap.size w ((w.alloc (.cells #[.int .i64 0, .int .i64 0, .slice none 0 0] 57)).alloc (.cells #[.int .i64 (c0.toNat : Int), .int .i64 (N1 : Int), .slice none 0 0] 57)).drew := (((Below.refl _ _).alloc (Nat.le_refl _) _).alloc (by simp) _).drew
  have O4 : Ow (w.heap.size + 1 + 1) ((w.alloc (.cells #[.int .i64 0, .int .i64 0, .slice none 0 0] 57)).alloc (.cells #[.int .i64 (c0.toNat : Int), .int .i64 (N1 : Int), .slice none 0 0] 57)).drew (.slice none 0 0) [] := Ow.nil _ _ (by show _ ≤ ((w.alloc _).alloc _).heap.size; simp)
  generalize ((w.alloc (.cells #[.int .i64 0, .int .i64 0, .slice none 0 0] 57)).alloc (.cells #[.int .i64 (c0.toNat : Int), .int .i64 (N1 : Int), .slice none 0 0] 57)).drew = w4 at *
  clear i0 i1 i2 hw1 hw2 hw3 N1d hc1 hc2
  have hw3 : IntKind.i64.wrap (c3.toNat : Int) = (c3.toNat : Int) := by rw [IntKind.wrap_i64]; omega
  have hw4 : IntKind.i64.wrap (c4.toNat : Int) = (c4.toNat : Int) := by rw [IntKind.wrap_i64]; omega
  have hw5 : IntKind.i64.wrap ((c3.toNat : Int) * 256) = (c3.toNat : Int) * 256 := by rw [IntKind.wrap_i64]; omega
  go_wp2_with fail
  go_quiet (fail)
  go_wp2_with fail
  have B5 := below_dN B4 nq
  have O5 := O4.drewN nq
  have K25 : (w4.drewN nq).heap[w.heap.size]? = some (.cells #[.int .i64 0, .int .i64 0, .slice none 0 0] 57 (0, 0)) := K2
  have K45 : (w4.drewN nq).heap[w.heap.size + 1]? = some (.cells #[.int .i64 (c0.toNat : Int), .int .i64 (N1 : Int), .slice none 0 0] 57 (0, 0)) := K4
  generalize w4.drewN nq = w5 at *
  clear B4 O4 K2 K4 i3 i4 hw3 hw4 hw5 N3d hc3 hc4
  go_loopw [6, 7] (fun t i wr => ∃ (k A : Nat) (L : List En) (v : Value), k ≤ N3 ∧ i = .int .i64 (k : Int) ∧ t = .int .i64 (A : Int) ∧ 5 ≤ A ∧ A ≤ 512 ∧ Hid (L.length = k) ∧ Hid (rde N3 (b.drop 5) = (rde (N3 - k) (b.drop A)).map (L ++ ·)) ∧ Ow (w.heap.size + 1 + 1) wr v L ∧ wr.heap[w.heap.size + 1]? = some (.cells #[.int .i64 (c0.toNat : Int), .int .i64 (N1 : Int), v] 57 (0, 0)) ∧ wr.heap[w.heap.size]? = some (.cells #[.int .i64 0, .int .i64 0, .slice none 0 0] 57 (0, 0)) ∧ Below w.heap.size w wr) (fun _ i _ => N3 - (intOf i).toNat)
  case atStart => exact ⟨0, 5, [], .slice none 0 0, by omega, rfl, rfl, by omega, by omega, ⟨rfl⟩, ⟨by cases rde N3 (b.drop 5) <;> simp⟩, O5, K45, K25, B5⟩
  case round =>
    clear B5 O5 K25 K45
    obtain ⟨k, A, L, v, hk, rfl, rfl, hA5, hA, HL, HI, hO, k4, k2, hb⟩ := hrel
    by_cases hlt : k < N3
    · have d1 : decide ((k : Int) < (N3 : Int)) = true := decide_eq_true (by omega)
      obtain ⟨n, hn⟩ : ∃ n, N3 - k = n + 1 := ⟨N3 - k - 1, by omega⟩
      by_cases h1 : 512 < A + 2
      · have d2 : decide ((512 : Int) < (A : Int) + 2) = true := decide_eq_true (by omega)
        have HN : Hid (RV = none) := ⟨by rw [HV.out, HI.out, hn, rde_short (by rw [List.length_drop, H5.out]; omega)]; rfl⟩
        obtain ⟨m0, m1, m2⟩ := box3 k2
        have f0 := frozen_of_row _ _ 0 _ _ k2
        have f1 := frozen_of_row _ _ 1 _ _ k2
        have f2 := frozen_of_row _ _ 2 _ _ k2
        go_wp2_with fail
        go_quiet (fail)
        go_wp2_with fail
        exact zero_end rfl (by rfl) (by rfl) (below_dN hb nq) k2 HN.out
      · have h512 := H5.out
        have iA : ∀ w, (ixS (str b) (.int .i64 (A : Int))).run Try.prog w = .ok (.int .u8 ((b.getD A 0).toNat : Int)) w := run_ix b A (by omega)
        have iB : ∀ w, (ixS (str b) (.int .i64 ((A : Int) + 1))).run Try.prog w = .ok (.int .u8 ((b.getD (A + 1) 0).toNat : Int)) w := run_ix b (A + 1) (by omega)
        have hx := (b.getD A 0).toNat_lt
        have hy := (b.getD (A + 1) 0).toNat_lt
        have d2 : decide ((512 : Int) < (A : Int) + 2) = false := decide_eq_false (by omega)
        have R1 := fun h2 => rde_at b n A (by rw [List.length_drop, h512]; omega) h2
        have R2 := fun h2 => rde_over (n := n) (b := b.drop A) (by rw [List.length_drop, h512]; omega) h2
        rw [getD_drop, getD_drop, Nat.add_zero] at R2
        have tA := fun (h : A + 2 + (b.getD A 0).toNat ≤ 512) => run_mid b (A + 2) (A + 2 + (b.getD A 0).toNat) (by omega) (by omega) (by omega)
        have tB := fun (h : A + 2 + (b.getD A 0).toNat + (b.getD (A + 1) 0).toNat ≤ 512) => run_mid b (A + 2 + (b.getD A 0).toNat) (A + 2 + (b.getD A 0).toNat + (b.getD (A + 1) 0).toNat) (by omega) (by omega) (by omega)
        generalize (b.getD A 0).toNat = x at *
        generalize (b.getD (A + 1) 0).toNat = y at *
        have wx : IntKind.i64.wrap (x : Int) = (x : Int) := by rw [IntKind.wrap_i64]; omega
        have wy : IntKind.i64.wrap (y : Int) = (y : Int) := by rw [IntKind.wrap_i64]; omega
        by_cases h2 : 512 < A + 2 + x + y
        · have d3 : decide ((512 : Int) < (A : Int) + 2 + (x : Int) + (y : Int)) = true := decide_eq_true (by omega)
          have HN : Hid (RV = none) := ⟨by rw [HV.out, HI.out, hn, R2 (by rw [List.length_drop, h512]; omega)]; rfl⟩
          obtain ⟨m0, m1, m2⟩ := box3 k2
          have f0 := frozen_of_row _ _ 0 _ _ k2
          have f1 := frozen_of_row _ _ 1 _ _ k2
          have f2 := frozen_of_row _ _ 2 _ _ k2
          clear h512 R1 R2 tA tB
          go_wp2_with fail
          go_quiet (fail)
          go_wp2_with fail
          exact zero_end rfl (by rfl) (by rfl) (below_dN hb nq) k2 HN.out
        · have d3 : decide ((512 : Int) < (A : Int) + 2 + (x : Int) + (y : Int)) = false := decide_eq_false (by omega)
          have R3 := R1 (by rw [List.length_drop, h512]; omega)
          have tA' : ∀ w, (slS (str b) (some (.int .i64 ((A : Int) + 2))) (some (.int .i64 ((A : Int) + 2 + (x : Int)))) none).run Try.prog w = .ok (str ((b.drop (A + 2)).take x)) w := fun w => by
            have := tA (by omega) w
            rw [show A + 2 + x - (A + 2) = x by omega] at this
            exact this
          have tB' : ∀ w, (slS (str b) (some (.int .i64 ((A : Int) + 2 + (x : Int)))) (some (.int .i64 ((A : Int) + 2 + (x : Int) + (y : Int)))) none).run Try.prog w = .ok (str ((b.drop (A + 2 + x)).take y)) w := fun w => by
            have := tB (by omega) w
            rw [show A + 2 + x + y - (A + 2 + x) = y by omega] at this
            exact this
          clear tA tB R1 R2
          generalize (b.drop (A + 2)).take x = ky at *
          generalize (b.drop (A + 2 + x)).take y = vl at *
          have HI2 : Hid (rde N3 (b.drop 5) = (rde (N3 - (k + 1)) (b.drop (A + 2 + x + y))).map ((L ++ [⟨ky, vl⟩]) ++ ·)) := ⟨by rw [HI.out, hn, R3, show N3 - (k + 1) = n by omega]; cases rde n (b.drop (A + 2 + x + y)) <;> simp⟩
          have HA2 : A + 2 + x + y ≤ 512 := by omega
          have HL2 : Hid ((L ++ [(⟨ky, vl⟩ : En)]).length = k + 1) := ⟨by simp [HL.out]⟩
          have hll : L.length ≤ 1000000000 := by rw [HL.out]; omega
          clear h512 R3
          obtain ⟨m0, m1, m2⟩ := box3 k4
          go_wp2_with fail
          go_quiet (fail)
          go_wp2_with fail
          have hbq := below_dN hb nq
          have hOq := hO.drewN nq
          have k4q : (wr.drewN nq).heap[w.heap.size + 1]? = some (.cells #[.int .i64 (c0.toNat : Int), .int .i64 (N1 : Int), v] 57 (0, 0)) := k4
          have k2q : (wr.drewN nq).heap[w.heap.size]? = some (.cells #[.int .i64 0, .int .i64 0, .slice none 0 0] 57 (0, 0)) := k2
          clear hb hO k4 k2 m0 m1 m2
          generalize wr.drewN nq = wq at *
          obtain ⟨m0, m1, m2⟩ := box3 k4q
          have m2' : (wq.alloc (.cells #[str ky, str vl] 43)).cell? ⟨w.heap.size + 1, 2, none⟩ = some v := (Below.cell (p := ⟨w.heap.size + 1, 2, none⟩) ((Below.refl wq.heap.size wq).alloc (Nat.le_refl _) _) (Array.getElem?_eq_some_iff.1 k4q).1).trans m2
          have wA : IntKind.i64.wrap ((A : Int) + 2) = (A : Int) + 2 := by rw [IntKind.wrap_i64]; omega
          go_region_law (refine step_one rfl _ _ rfl ⟨ky, vl⟩ rfl hOq.drew rfl hll rfl rfl ?_; intro v3 w3 o3 b3; obtain ⟨a3, z3, rfl, s3⟩ := o3.sl; have k43 := (b3.block (w.heap.size + 1) (by omega)).trans k4q; obtain ⟨r0, r1, r2⟩ := box3 k43; have f2 := frozen_of_row _ _ 2 _ _ k43)
          all_goals
            have hb3 : Below w.heap.size w w3 := hbq.drew.trans (b3.mono (by omega))
            have k23 : w3.heap[w.heap.size]? = some (.cells #[.int .i64 0, .int .i64 0, .slice none 0 0] 57 (0, 0)) := (b3.block w.heap.size (by omega)).trans k2q
            have K43 : (w3.setCell ⟨w.heap.size + 1, 2, none⟩ (.slice a3 (L.length + 1) z3)).heap[w.heap.size + 1]? = some (.cells #[.int .i64 (c0.toNat : Int), .int .i64 (N1 : Int), .slice a3 (L.length + 1) z3] 57 (0, 0)) := heap_setCell_same w3 (w.heap.size + 1) 2 _ _ (.slice a3 (L.length + 1) z3) k43
            have o3' : Ow (w.heap.size + 1 + 1) w3 (.slice a3 (L.length + 1) z3) (L ++ [⟨ky, vl⟩]) := by have := o3; rw [List.length_append] at this; exact this
            have K23 : (w3.setCell ⟨w.heap.size + 1, 2, none⟩ (.slice a3 (L.length + 1) z3)).heap[w.heap.size]? = some (.cells #[.int .i64 0, .int .i64 0, .slice none 0 0] 57 (0, 0)) := by rw [heap_setCell_other _ _ _ _ (by simp)]; exact k23
            have O3 : Ow (w.heap.size + 1 + 1) (w3.setCell ⟨w.heap.size + 1, 2, none⟩ (.slice a3 (L.length + 1) z3)) (.slice a3 (L.length + 1) z3) (L ++ [⟨ky, vl⟩]) := ow_set1 o3'
            have B3 : Below w.heap.size w (w3.setCell ⟨w.heap.size + 1, 2, none⟩ (.slice a3 (L.length + 1) z3)) := hb3.setCell (p := ⟨w.heap.size + 1, 2, none⟩) (Nat.le_succ _) _
            clear hbq hOq k4q k2q b3 o3 o3' s3 k43 k23 hb3 r0 r1 r2 f2
            generalize w3.setCell ⟨w.heap.size + 1, 2, none⟩ (.slice a3 (L.length + 1) z3) = w6 at *
            go_wp2_with fail
            exact ⟨⟨k + 1, A + 2 + x + y, L ++ [⟨ky, vl⟩], _, by omega, by go_num, by go_num, by omega, HA2, HL2, HI2, O3, K43, K23, B3⟩, by simp [intOf]; omega⟩
    · obtain rfl : k = N3 := by omega
      have d1 : decide ((k : Int) < (k : Int)) = false := decide_eq_false (by omega)
      have HV2 : Hid (RV = if flt (c0.toNat : Int) (N1 : Int) L = 0 ∧ blk (c0.toNat : Int) (N1 : Int) L = b then some ((c0.toNat : Int), (N1 : Int), L) else none) := ⟨by rw [HV.out, HI.out, Nat.sub_self]; simp [rde]⟩
      obtain ⟨av, cv, rfl, sv⟩ := hO.sl
      have hw4 := rWrite_any (c0.toNat : Int) (N1 : Int) L wr av L.length cv rfl sv.at' (by rw [HL.out]; omega)
      obtain ⟨q0, q1, q2⟩ := box3 k4
      have hlt4 : w.heap.size + 1 < wr.heap.size := (Array.getElem?_eq_some_iff.1 k4).1
      have KS : Hid (∀ w5, Below wr.heap.size wr w5 → w5.heap[w.heap.size + 1]? = some (.cells #[.int .i64 (c0.toNat : Int), .int .i64 (N1 : Int), .slice av L.length cv] 57 (0, 0)) ∧ w5.heap[w.heap.size]? = some (.cells #[.int .i64 0, .int .i64 0, .slice none 0 0] 57 (0, 0))) := ⟨fun w5 h => ⟨(h.block _ hlt4).trans k4, (h.block _ (by omega)).trans k2⟩⟩
      clear HI HV
      by_cases hf : flt (c0.toNat : Int) (N1 : Int) L = 0
      · by_cases hB : blk (c0.toNat : Int) (N1 : Int) L = b
        · have e1 : wrote (c0.toNat : Int) (N1 : Int) L = .tuple #[str b, .int .i64 0] := by unfold wrote; rw [if_pos hf, hf, hB]
          rw [e1] at hw4
          have HV3 : Hid (RV = some ((c0.toNat : Int), (N1 : Int), L)) := ⟨by rw [HV2.out]; exact if_pos ⟨hf, hB⟩⟩
          clear hf hB e1 HV2
          go_wp2_with (go_at_call 25; refine hw4.mono ?_; rintro e w5 ⟨rfl, b5⟩; have hp5 := (KS.out w5 b5).1; have hq5 := (KS.out w5 b5).2; obtain ⟨p0, p1, p2⟩ := box3 hp5; obtain ⟨e0, e1, e2⟩ := box3 hq5; have f0 := frozen_of_row _ _ 0 _ _ hq5; have f1 := frozen_of_row _ _ 1 _ _ hq5; have f2 := frozen_of_row _ _ 2 _ _ hq5)
          have h3 := set3 (a' := .int .i64 (c0.toNat : Int)) (b' := .int .i64 (N1 : Int)) (c' := .slice av L.length cv) hq5
          obtain ⟨g0, g1, g2⟩ := box3 h3
          have HB2 := below_set3 (a := .int .i64 (c0.toNat : Int)) (b := .int .i64 (N1 : Int)) (c := .slice av L.length cv) (below_seq hb b5)
          have HO2 := ow_set3 (B := 0) (a := .int .i64 (c0.toNat : Int)) (b := .int .i64 (N1 : Int)) (c := .slice av L.length cv) ((hO.later b5).base (Nat.le_succ _))
          generalize ((w5.setCell ⟨w.heap.size, 0, none⟩ (.int .i64 (c0.toNat : Int))).setCell ⟨w.heap.size, 1, none⟩ (.int .i64 (N1 : Int))).setCell ⟨w.heap.size, 2, none⟩ (.slice av L.length cv) = w9 at *
          refine bodyPost_ret (v := .tuple #[pgv (c0.toNat : Int) (N1 : Int) (.slice av L.length cv), .int .i64 0]) ?_ rfl (by rw [HV3.out]; exact ⟨HB2, _, rfl, HO2⟩)
          rw [results_cell_tmp rfl]
          go_simp
        · have e1 : wrote (c0.toNat : Int) (N1 : Int) L = .tuple #[str (blk (c0.toNat : Int) (N1 : Int) L), .int .i64 0] := by unfold wrote; rw [if_pos hf, hf]
          rw [e1] at hw4
          have HV3 : Hid (RV = none) := ⟨by rw [HV2.out]; exact if_neg fun q => hB q.2⟩
          generalize blk (c0.toNat : Int) (N1 : Int) L = T at *
          have hd9 : (T == b) = false := by rw [beq_eq_false_iff_ne]; exact hB
          have hd8 : (T != b) = true := by rw [bne_iff_ne]; exact hB
          clear hf hB e1 HV2
          go_wp2_with (go_at_call 25; refine hw4.mono ?_; rintro e w5 ⟨rfl, b5⟩; have hp5 := (KS.out w5 b5).1; have hq5 := (KS.out w5 b5).2; obtain ⟨p0, p1, p2⟩ := box3 hp5; obtain ⟨e0, e1, e2⟩ := box3 hq5; have f0 := frozen_of_row _ _ 0 _ _ hq5; have f1 := frozen_of_row _ _ 1 _ _ hq5; have f2 := frozen_of_row _ _ 2 _ _ hq5)
          exact zero_end rfl (by rfl) (by rfl) (below_seq hb b5) hq5 HV3.out
      · have e1 : wrote (c0.toNat : Int) (N1 : Int) L = .tuple #[str [], .int .i64 (flt (c0.toNat : Int) (N1 : Int) L)] := by unfold wrote; rw [if_neg hf]
        rw [e1] at hw4
        have HV3 : Hid (RV = none) := ⟨by rw [HV2.out]; exact if_neg fun q => hf q.1⟩
        generalize flt (c0.toNat : Int) (N1 : Int) L = z at *
        have hd8 : (z != 0) = true := by rw [bne_iff_ne]; exact hf
        clear hf e1 HV2
        go_wp2_with (go_at_call 25; refine hw4.mono ?_; rintro e w5 ⟨rfl, b5⟩; have hp5 := (KS.out w5 b5).1; have hq5 := (KS.out w5 b5).2; obtain ⟨p0, p1, p2⟩ := box3 hp5; obtain ⟨e0, e1, e2⟩ := box3 hq5; have f0 := frozen_of_row _ _ 0 _ _ hq5; have f1 := frozen_of_row _ _ 1 _ _ hq5; have f2 := frozen_of_row _ _ 2 _ _ hq5)
        exact zero_end rfl (by rfl) (by rfl) (below_seq hb b5) hq5 HV3.out
theorem rRead_any (b : List UInt8) (w : World) (hb0 : b.length ≤ 9223372036854775807) :
    Calls Try.prog 26 #[str b] w (ReadP w (rdv b)) := by
  by_cases h : b.length = 512
  · exact rRead_good b w h
  · exact rRead_bad b w h hb0
end Go.Proofs.Ytibmnpkmbhjniaa
