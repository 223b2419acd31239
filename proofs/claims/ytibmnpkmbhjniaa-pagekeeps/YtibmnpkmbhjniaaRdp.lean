/- Read, the whole. -/
import Derived.Test.YtibmnpkmbhjniaaRea
import Derived.Laws.ResultCell
namespace Go.Proofs.Ytibmnpkmbhjniaa
set_option linter.unusedVariables false
set_option linter.unusedSimpArgs false
open Go.RowKit
attribute [local go_sem ↓] Go.wp_at_zero Go.wp_at_succ
attribute [local go_sem ↓] sl9 ix9
theorem readNumber_b (b : List UInt8) (w : World) (h2 : 2 ≤ b.length) :
    Calls Try.prog 36 #[str b] w fun e w' => e = .returned (.int .i64 (num2 b 0 : Int)) ∧ Below w.heap.size w w' :=
  (readNumber_any b w h2).mono fun e w' ⟨m, h1, h2⟩ => ⟨h1, by subst h2; exact below_dN (Below.refl _ _) m⟩
/-- what Read tells -/
noncomputable def rdv (b : List UInt8) : Option (Int × Int × List En) := if b.length = 512 then match rde (num2 b 3) (b.drop 5) with
    | none => none
    | some l => if flt ((b.getD 0 0).toNat : Int) (num2 b 1 : Int) l = 0 ∧ blk ((b.getD 0 0).toNat : Int) (num2 b 1 : Int) l = b then some ((b.getD 0 0).toNat, num2 b 1, l) else none
  else none
def ReadP (w : World) (o : Option (Int × Int × List En)) (e : Ending) (w' : World) : Prop := Below w.heap.size w w' ∧ match o with
  | some (k, j, l) => ∃ v, e = .returned (.tuple #[pgv k j v, .int .i64 0]) ∧ Ow w.heap.size w' v l
  | none => e = .returned (.tuple #[pgv 0 0 (.slice none 0 0), .int .i64 4])
theorem num2_drop (b : List UInt8) (i : Nat) : num2 (b.drop i) 0 = num2 b i := by
  unfold num2
  simp [List.getD_eq_getElem?_getD, List.getElem?_drop]
theorem num2_le (b : List UInt8) (i : Nat) : num2 b i ≤ 65535 := by
  unfold num2
  have := (b.getD i 0).toNat_lt
  have := (b.getD (i + 1) 0).toNat_lt
  omega
theorem set3 {w : World} {R : Nat} {a b c a' b' c' : Value} {t : TypeId} (h : w.heap[R]? = some (.cells #[a, b, c] t (0, 0))) :
    (((w.setCell ⟨R, 0, none⟩ a').setCell ⟨R, 1, none⟩ b').setCell ⟨R, 2, none⟩ c').heap[R]? = some (.cells #[a', b', c'] t (0, 0)) := by
  have h1 := heap_setCell_same w R 0 #[a, b, c] t a' h
  have h2 := heap_setCell_same _ R 1 _ t b' h1
  have h3 := heap_setCell_same _ R 2 _ t c' h2
  exact h3
theorem below_set3 {w w2 : World} {R : Nat} {a b c : Value} (h : Below R w w2) : Below R w (((w2.setCell ⟨R, 0, none⟩ a).setCell ⟨R, 1, none⟩ b).setCell ⟨R, 2, none⟩ c) :=
  ((h.setCell (p := ⟨R, 0, none⟩) (Nat.le_refl _) _).setCell (p := ⟨R, 1, none⟩) (Nat.le_refl _) _).setCell (p := ⟨R, 2, none⟩) (Nat.le_refl _) _
theorem rde_len : ∀ {n : Nat} {b : List UInt8} {L : List En}, rde n b = some L → L.length = n
  | 0, b, L, h => by simp [rde] at h; subst h; rfl
  | n + 1, b, L, h => by
    by_cases h1 : b.length < 2
    · rw [rde_short h1] at h; cases h
    · by_cases h2 : b.length - 2 < (b.getD 0 0).toNat + (b.getD 1 0).toNat
      · rw [rde_over h1 h2] at h; cases h
      · rw [rde_more h1 h2] at h
        cases hr : rde n ((b.drop 2).drop ((b.getD 0 0).toNat + (b.getD 1 0).toNat)) with
        | none => rw [hr] at h; cases h
        | some M =>
          rw [hr] at h
          simp at h
          rw [← h, List.length_cons, rde_len hr]
theorem bz {w2 w3 : World} {a b c : Value} (bA : Below (w2.alloc (.cells #[a, b, c] 29)).drew.heap.size (w2.alloc (.cells #[a, b, c] 29)).drew w3) : w3.heap[w2.heap.size]? = some (.cells #[a, b, c] 29 (0, 0)) := by
  rw [bA.block _ (by simp)]; exact heap_alloc_new w2 _
theorem ow_set3 {w : World} {v : Value} {l : List En} {B R : Nat} {a b c : Value} (h : Ow (R + 1) w v l) : Ow R (((w.setCell ⟨R, 0, none⟩ a).setCell ⟨R, 1, none⟩ b).setCell ⟨R, 2, none⟩ c) v l := by
  have hy : v.ownBlock ≠ some R := fun q => by have := (h.own.lt _ q).1; omega
  have h2 : Ow (R + 1) (((w.setCell ⟨R, 0, none⟩ a).setCell ⟨R, 1, none⟩ b).setCell ⟨R, 2, none⟩ c) v l := ⟨ownsRow_setCell_other (ownsRow_setCell_other (ownsRow_setCell_other h.own (a := ⟨R, 0, none⟩) hy _) (a := ⟨R, 1, none⟩) hy _) (a := ⟨R, 2, none⟩) hy _, by simpa using h.le⟩
  exact h2.base (Nat.le_succ _)
set_option maxHeartbeats 4000000 in
theorem read_any (b : List UInt8) (w : World) (hb0 : b.length ≤ 9223372036854775807) :
    Calls Try.prog 12 #[str b] w (ReadP w (rdv b)) := by
  by_cases h5 : b.length = 512
  · have s5 : ∀ w, (slS (str b) (some (.int .i64 5)) none none).run Try.prog w = .ok (str (b.drop 5)) w := run_lo b 5 (by omega) (by omega)
    have s3 : ∀ w, (slS (str b) (some (.int .i64 3)) none none).run Try.prog w = .ok (str (b.drop 3)) w := run_lo b 3 (by omega) (by omega)
    have s1 : ∀ w, (slS (str b) (some (.int .i64 1)) none none).run Try.prog w = .ok (str (b.drop 1)) w := run_lo b 1 (by omega) (by omega)
    have i0 : ∀ w, (ixS (str b) (.int .i64 0)).run Try.prog w = .ok (.int .u8 ((b.getD 0 0).toNat : Int)) w := run_ix b 0 (by omega)
    have d0 : ((b.length : Int) != 512) = false := by rw [bne_eq_false_iff_eq]; omega
    have n3 := fun w => readNumber_b (b.drop 3) w (by rw [List.length_drop]; omega)
    have n1 := fun w => readNumber_b (b.drop 1) w (by rw [List.length_drop]; omega)
    have hr := fun w => readEntries_any (b.drop 5) (num2 b 3) w (by rw [List.length_drop]; omega) (num2_le _ _)
    rw [num2_drop] at n3 n1
    have PB : Hid (∀ w', Below (w.heap.size + 1) (w.alloc (.cells #[.int .i64 0, .int .i64 0, .slice none 0 0] 29)) w' → w'.heap[w.heap.size]? = some (.cells #[.int .i64 0, .int .i64 0, .slice none 0 0] 29 (0, 0))) := ⟨fun w' hb => by rw [hb.block _ (by omega)]; exact heap_alloc_new _ _⟩
    have hx0 := (b.getD 0 0).toNat_lt
    have HV : Hid (rdv b = match rde (num2 b 3) (b.drop 5) with
      | none => none
      | some l => if flt ((b.getD 0 0).toNat : Int) (num2 b 1 : Int) l = 0 ∧ blk ((b.getD 0 0).toNat : Int) (num2 b 1 : Int) l = b then some ((b.getD 0 0).toNat, num2 b 1, l) else none) := ⟨by unfold rdv; rw [if_pos h5]⟩
    have hX3 : num2 b 3 ≤ 1000000000000 := by have := num2_le b 3; omega
    generalize rdv b = RV at *
    generalize (b.getD 0 0).toNat = X0 at *
    generalize num2 b 1 = X1 at *
    generalize num2 b 3 = X3 at *
    generalize b.drop 5 = b5 at *
    generalize b.drop 3 = b3 at *
    generalize b.drop 1 = b1 at *
    cases hR : rde X3 b5 with
    | none =>
      rw [hR] at hr HV
      obtain ⟨rfl⟩ := HV
      have hr2 := fun w => (hr w).mono (fun e w' h => show e = .returned (.tuple #[.slice none 0 0, .bool false]) ∧ Below w.heap.size w w' from ⟨h.2, h.1⟩)
      have HX : Hid (∀ w', Below w.heap.size w w' → ReadP w none (.returned (.tuple #[pgv 0 0 (.slice none 0 0), .int .i64 4])) w') := ⟨fun w' h => ⟨h, rfl⟩⟩
      simp only []
      generalize ReadP w none = PP at *
      clear hr
      go_enter Try.func12, Try.ntmps12
      go_wp2_with fail
      go_region_held3 (fun w' => Below (w.heap.size + 1) (w.alloc (.cells #[.int .i64 0, .int .i64 0, .slice none 0 0] 29)) w') (first | exact (Below.refl _ _).drew | exact (Below.refl _ _).drew.trans (bA.mono (by simp)) | exact ((Below.refl _ _).drew.trans (bA.mono (by simp))).trans (bB.mono (by have := bA.size; simp at this; omega))) (first
        | (go_at_call 36; with_reducible refine Calls.mono (n3 _) ?_; rintro e w1 ⟨rfl, bA⟩)
        | (go_at_call 35; with_reducible refine Calls.mono (hr2 _) ?_; rintro e w2 ⟨rfl, bB⟩))
      have HB : Hid (Below (w.heap.size + 1) (w.alloc (.cells #[.int .i64 0, .int .i64 0, .slice none 0 0] 29)) w2) := ⟨((Below.refl _ _).drew.trans (bA.mono (by simp))).trans (bB.mono (by have := bA.size; simp at this; omega))⟩
      have hq := PB.out _ HB.out
      obtain ⟨e0, e1, e2⟩ := box3 hq
      have f0 := frozen_of_row _ _ 0 _ _ hq
      have f1 := frozen_of_row _ _ 1 _ _ hq
      have f2 := frozen_of_row _ _ 2 _ _ hq
      go_wp2_with fail
      have h3 := set3 (a' := .int .i64 0) (b' := .int .i64 0) (c' := .slice none 0 0) hq
      obtain ⟨g0, g1, g2⟩ := box3 h3
      have HB2 := below_set3 (a := .int .i64 0) (b := .int .i64 0) (c := .slice none 0 0) (((Below.refl w.heap.size w).alloc (Nat.le_refl _) _).trans (HB.out.mono (Nat.le_succ _)))
      generalize ((w2.setCell ⟨w.heap.size, 0, none⟩ (.int .i64 0)).setCell ⟨w.heap.size, 1, none⟩ (.int .i64 0)).setCell ⟨w.heap.size, 2, none⟩ (.slice none 0 0) = w9 at *
      refine bodyPost_ret (v := .tuple #[pgv 0 0 (.slice none 0 0), .int .i64 4]) ?_ rfl (HX.out _ HB2)
      rw [results_cell_tmp rfl]
      go_simp
    | some L =>
      rw [hR] at hr HV
      have hr2 := fun w => (hr w).mono (fun e w' h => show ∃ v, e = .returned (.tuple #[v, .bool true]) ∧ Ow w.heap.size w' v L ∧ Below w.heap.size w w' from by obtain ⟨h1, v, h2, h3⟩ := h; exact ⟨v, h2, h3, h1⟩)
      have hwr := fun w a n cap h1 h2 => write_any (X0 : Int) (X1 : Int) L w a n cap h1 h2
      have hLl : L.length ≤ 1000000000000 := by rw [rde_len hR]; exact hX3
      have hwX : IntKind.i64.wrap (X0 : Int) = (X0 : Int) := by rw [IntKind.wrap_i64]; omega
      clear hr
      go_enter Try.func12, Try.ntmps12
      go_wp2_with fail
      go_region_held3 (fun w' => Below (w.heap.size + 1) (w.alloc (.cells #[.int .i64 0, .int .i64 0, .slice none 0 0] 29)) w') (first | exact (Below.refl _ _).drew | exact (Below.refl _ _).drew.trans (bA.mono (by simp)) | exact ((Below.refl _ _).drew.trans (bA.mono (by simp))).trans (bB.mono (by have := bA.size; simp at this; omega))) (first
        | (go_at_call 36; with_reducible refine Calls.mono (n3 _) ?_; rintro e w1 ⟨rfl, bA⟩)
        | (go_at_call 35; with_reducible refine Calls.mono (hr2 _) ?_; rintro e w2 ⟨v, rfl, oV, bB⟩))
      have HB : Hid (Below (w.heap.size + 1) (w.alloc (.cells #[.int .i64 0, .int .i64 0, .slice none 0 0] 29)) w2) := ⟨((Below.refl _ _).drew.trans (bA.mono (by simp))).trans (bB.mono (by have := bA.size; simp at this; omega))⟩
      have oV2 := Hid.mk (oV.base (b' := w.heap.size + 1) (by have := bA.size; simp at this; omega))
      clear oV bA bB
      obtain ⟨av, cv, rfl, hSv⟩ := oV2.out.sl
      have hBs := HB.out.size
      simp only [World.size_alloc] at hBs
      go_wp2_with fail
      go_region_held3 (fun w' => Below w2.heap.size w2 w') (first | exact (Below.refl _ _).drew | exact below_seq (Below.refl _ _).drew bA | exact Below.alloc (below_seq (Below.refl _ _).drew bA) bA.size _ | exact ((Below.refl _ _).alloc (Nat.le_refl _) _).drew | exact below_seq ((Below.refl _ _).alloc (Nat.le_refl _) _).drew bA | exact below_set3 (below_seq ((Below.refl _ _).alloc (Nat.le_refl _) _).drew bA)) (first
        | (go_at_call 36; with_reducible refine Calls.mono (n1 _) ?_; rintro e w3 ⟨rfl, bA⟩; first | (have hz3 := bz bA; obtain ⟨z0, z1, z2⟩ := box3 hz3; have k0 := frozen_of_row _ _ 0 _ _ hz3; have k1 := frozen_of_row _ _ 1 _ _ hz3; have k2 := frozen_of_row _ _ 2 _ _ hz3) | skip))
      all_goals first
        | (have hp4 : (w3.alloc (.cells #[.int .i64 (X0 : Int), .int .i64 (X1 : Int), .slice av L.length cv] 29)).heap[w3.heap.size]? = some (.cells #[.int .i64 (X0 : Int), .int .i64 (X1 : Int), .slice av L.length cv] 29 (0, 0)) := heap_alloc_new w3 _
           have b4 : Below w2.heap.size w2 (w3.alloc (.cells #[.int .i64 (X0 : Int), .int .i64 (X1 : Int), .slice av L.length cv] 29)) := Below.alloc (below_seq (Below.refl _ _).drew bA) bA.size _
           generalize w3.alloc (.cells #[.int .i64 (X0 : Int), .int .i64 (X1 : Int), .slice av L.length cv] 29) = w4 at *)
        | (have hp4 := set3 (a' := .int .i64 (X0 : Int)) (b' := .int .i64 (X1 : Int)) (c' := .slice av L.length cv) hz3
           have b4 := below_set3 (a := .int .i64 (X0 : Int)) (b := .int .i64 (X1 : Int)) (c := .slice av L.length cv) (below_seq ((Below.refl w2.heap.size w2).alloc (Nat.le_refl _) _).drew bA)
           clear z0 z1 z2 k0 k1 k2 hz3
           generalize ((w3.setCell ⟨w2.heap.size, 0, none⟩ (.int .i64 (X0 : Int))).setCell ⟨w2.heap.size, 1, none⟩ (.int .i64 (X1 : Int))).setCell ⟨w2.heap.size, 2, none⟩ (.slice av L.length cv) = w4 at *)
      all_goals
        have hw4 := hwr w4 av L.length cv rfl (hSv.later b4).at' hLl
        have hlt4 := (Array.getElem?_eq_some_iff.1 hp4).1
        have hb0 : b ≠ [] := by rintro rfl; simp at h5
        have HB4 : Hid (Below (w.heap.size + 1) (w.alloc (.cells #[.int .i64 0, .int .i64 0, .slice none 0 0] 29)) w4) := ⟨HB.out.trans (b4.mono hBs)⟩
        have HO4 := Hid.mk (oV2.out.later b4)
        obtain ⟨q0, q1, q2⟩ := box3 hp4
        clear HB oV2 hSv b4 hwr n3 n1 hr2
        by_cases hc : flt (X0 : Int) (X1 : Int) L = 0 ∧ blk (X0 : Int) (X1 : Int) L = b
        · have e1 : wrote (X0 : Int) (X1 : Int) L = .tuple #[str b, .int .i64 0] := by unfold wrote; rw [if_pos hc.1, hc.1, hc.2]
          rw [e1] at hw4
          have HV2 : Hid (RV = some ((X0 : Int), (X1 : Int), L)) := ⟨by rw [HV.out]; exact if_pos hc⟩
          clear hc e1 HV
          go_wp2_with (go_at_call 11; refine hw4.mono ?_; rintro e w5 ⟨rfl, b5'⟩; have hp5 := (b5'.block _ hlt4).trans hp4; obtain ⟨p0, p1, p2⟩ := box3 hp5; have hq := PB.out _ (HB4.out.trans (b5'.mono (by have := HB4.out.size; simp at this; omega))); obtain ⟨e0, e1, e2⟩ := box3 hq; have f0 := frozen_of_row _ _ 0 _ _ hq; have f1 := frozen_of_row _ _ 1 _ _ hq; have f2 := frozen_of_row _ _ 2 _ _ hq)
          have h3 := set3 (a' := .int .i64 (X0 : Int)) (b' := .int .i64 (X1 : Int)) (c' := .slice av L.length cv) hq
          obtain ⟨g0, g1, g2⟩ := box3 h3
          have HB2 := below_set3 (a := .int .i64 (X0 : Int)) (b := .int .i64 (X1 : Int)) (c := .slice av L.length cv) ((((Below.refl w.heap.size w).alloc (Nat.le_refl _) _).trans (HB4.out.mono (Nat.le_succ _))).trans (b5'.mono (by have := HB4.out.size; simp at this; omega)))
          have HO2 := ow_set3 (B := 0) (a := .int .i64 (X0 : Int)) (b := .int .i64 (X1 : Int)) (c := .slice av L.length cv) (HO4.out.later b5')
          generalize ((w5.setCell ⟨w.heap.size, 0, none⟩ (.int .i64 (X0 : Int))).setCell ⟨w.heap.size, 1, none⟩ (.int .i64 (X1 : Int))).setCell ⟨w.heap.size, 2, none⟩ (.slice av L.length cv) = w9 at *
          refine bodyPost_ret (v := .tuple #[pgv (X0 : Int) (X1 : Int) (.slice av L.length cv), .int .i64 0]) ?_ rfl (by rw [HV2.out]; exact ⟨HB2, _, rfl, HO2⟩)
          rw [results_cell_tmp rfl]
          go_simp
        · have HV2 : Hid (RV = none) := ⟨by rw [HV.out]; exact if_neg hc⟩
          have e1 : ∃ T z, wrote (X0 : Int) (X1 : Int) L = .tuple #[str T, .int .i64 z] ∧ T ≠ b := by
            by_cases hf : flt (X0 : Int) (X1 : Int) L = 0
            · exact ⟨_, _, rfl, by rw [if_pos hf]; exact fun q => hc ⟨hf, q⟩⟩
            · exact ⟨_, _, rfl, by rw [if_neg hf]; exact fun q => hb0 q.symm⟩
          obtain ⟨T, z, e1, hT⟩ := e1
          rw [e1] at hw4
          have hd9 : (T == b) = false := by rw [beq_eq_false_iff_ne]; exact hT
          clear hc e1 HV hT
          go_wp2_with (go_at_call 11; refine hw4.mono ?_; rintro e w5 ⟨rfl, b5'⟩; have hp5 := (b5'.block _ hlt4).trans hp4; obtain ⟨p0, p1, p2⟩ := box3 hp5; have hq := PB.out _ (HB4.out.trans (b5'.mono (by have := HB4.out.size; simp at this; omega))); obtain ⟨e0, e1, e2⟩ := box3 hq; have f0 := frozen_of_row _ _ 0 _ _ hq; have f1 := frozen_of_row _ _ 1 _ _ hq; have f2 := frozen_of_row _ _ 2 _ _ hq)
          have h3 := set3 (a' := .int .i64 0) (b' := .int .i64 0) (c' := .slice none 0 0) hq
          obtain ⟨g0, g1, g2⟩ := box3 h3
          have HB2 := below_set3 (a := .int .i64 0) (b := .int .i64 0) (c := .slice none 0 0) ((((Below.refl w.heap.size w).alloc (Nat.le_refl _) _).trans (HB4.out.mono (Nat.le_succ _))).trans (b5'.mono (by have := HB4.out.size; simp at this; omega)))
          generalize ((w5.setCell ⟨w.heap.size, 0, none⟩ (.int .i64 0)).setCell ⟨w.heap.size, 1, none⟩ (.int .i64 0)).setCell ⟨w.heap.size, 2, none⟩ (.slice none 0 0) = w9 at *
          refine bodyPost_ret (v := .tuple #[pgv 0 0 (.slice none 0 0), .int .i64 4]) ?_ rfl (by rw [HV2.out]; exact ⟨HB2, rfl⟩)
          rw [results_cell_tmp rfl]
          go_simp
  · have hv : rdv b = none := by unfold rdv; rw [if_neg h5]
    rw [hv]
    have d0 : ((b.length : Int) != 512) = true := by rw [bne_iff_ne]; omega
    have HX : Hid (∀ w', Below w.heap.size w w' → ReadP w none (.returned (.tuple #[pgv 0 0 (.slice none 0 0), .int .i64 4])) w') := ⟨fun w' h => ⟨h, rfl⟩⟩
    generalize ReadP w none = PP at *
    go_enter Try.func12, Try.ntmps12
    go_wp2_with fail
    refine bodyPost_ret (v := .tuple #[pgv 0 0 (.slice none 0 0), .int .i64 4]) ?_ rfl (HX.out _ ((Below.refl _ _).alloc (Nat.le_refl _) _))
    rw [results_cell_tmp rfl]
    go_simp
end Go.Proofs.Ytibmnpkmbhjniaa
