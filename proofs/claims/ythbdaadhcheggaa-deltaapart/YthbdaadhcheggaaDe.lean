/- The document's Since. -/
import Derived.Test.YthbdaadhcheggaaDb
namespace Go.Proofs.Ythbdaadhcheggaa
set_option linter.unusedVariables false
set_option linter.unusedSimpArgs false
open Go.RowKit
attribute [local go_sem ↓] Go.wp_at_zero Go.wp_at_succ
attribute [local go_sem ↓] slPe
attribute [-go_sem] Go.Builtin.append_
theorem bq_bdd (w : World) (x y m : Value) : ∀ w', Below (w.heap.size + 3) (((w.alloc (.cells #[x, y] 24)).alloc (.cells #[.int .i64 0, .int .i64 0, .slice none 0 0] 31)).alloc (.cells #[m, x, .slice none 0 0] 31)) w' → Bq w' w.heap.size x y ∧ Bd w' (w.heap.size + 1) (.int .i64 0) (.int .i64 0) (.slice none 0 0) ∧ Bd w' (w.heap.size + 2) m x (.slice none 0 0) := fun w' h => by
  have h0 := bq_bd w x y _ (((Below.refl (w.heap.size + 2) ((w.alloc (.cells #[x, y] 24)).alloc (.cells #[.int .i64 0, .int .i64 0, .slice none 0 0] 31))).alloc (by simp) (.cells #[m, x, .slice none 0 0] 31)).trans (h.mono (by omega)))
  refine ⟨h0.1, h0.2, ?_⟩
  refine Bd.low (w := ((w.alloc (.cells #[x, y] 24)).alloc (.cells #[.int .i64 0, .int .i64 0, .slice none 0 0] 31)).alloc (.cells #[m, x, .slice none 0 0] 31)) ?_ (by omega) h
  have := heap_alloc_new ((w.alloc (.cells #[x, y] 24)).alloc (.cells #[.int .i64 0, .int .i64 0, .slice none 0 0] 31)) (.cells #[m, x, .slice none 0 0] 31)
  rw [World.size_alloc, World.size_alloc] at this
  exact this
set_option maxRecDepth 100000 in
set_option maxHeartbeats 4000000 in
theorem eSince_any (L : List Vs) (next m : Int) (w : World) (a : Option Addr) (n cap : Nat) (hL : Li w L a n cap) :
    Calls Try.prog 16 #[bv next a n cap, .int .i64 m] w fun e w' => SnP next m L w w' e ∧ Below w.heap.size w w' := by
  obtain rfl := hL.n
  have b0 := (Below.refl w.heap.size w).alloc (Nat.le_refl _) (.cells #[.int .i64 next, .slice a L.length cap] 24)
  have b1 := b0.alloc b0.size (.cells #[.int .i64 0, .int .i64 0, .slice none 0 0] 31)
  have b2 := b1.alloc b1.size (.cells #[.int .i64 m, .int .i64 next, .slice none 0 0] 31)
  have HB := Hid.mk (bq_bdd w (.int .i64 next) (.slice a L.length cap) (.int .i64 m))
  have hl := hL.l
  have hs3 : (((w.alloc (.cells #[.int .i64 next, .slice a L.length cap] 24)).alloc (.cells #[.int .i64 0, .int .i64 0, .slice none 0 0] 31)).alloc (.cells #[.int .i64 m, .int .i64 next, .slice none 0 0] 31)).heap.size = w.heap.size + 3 := by simp
  have HL := Hid.mk hL
  have HB2 := Hid.mk (bq_bd w (.int .i64 next) (.slice a L.length cap))
  clear hL b0
  by_cases h1 : m < 1
  · have d1 : decide (m < 1) = true := decide_eq_true h1
    have HN : Hid (¬ (1 ≤ m ∧ m ≤ next)) := ⟨fun h => by omega⟩
    clear h1
    go_enter Try.func16, Try.ntmps16
    go_wp2_with fail
    obtain ⟨x0, y0⟩ := HB2.out _ (Below.refl _ _)
    obtain ⟨g0, g1, g2, _⟩ := y0.cells
    refine bodyPost_ret (v := .tuple #[dv 0 0 none 0 0, .int .i64 1]) ?_ rfl ⟨.inr ⟨HN.out, rfl⟩, b1⟩
    rw [results_ct rfl]
    go_simp
  have d1 : decide (m < 1) = false := decide_eq_false h1
  obtain ⟨z0, z1, _⟩ := (Bq.new w (.int .i64 next) (.slice a L.length cap)).cells
  by_cases h2 : next < m
  · have d2 : decide (next < m) = true := decide_eq_true h2
    have HN : Hid (¬ (1 ≤ m ∧ m ≤ next)) := ⟨fun h => by omega⟩
    clear h1 h2
    go_enter Try.func16, Try.ntmps16
    go_wp2_with fail
    obtain ⟨x0, y0⟩ := HB2.out _ (Below.refl _ _)
    obtain ⟨g0, g1, g2, _⟩ := y0.cells
    refine bodyPost_ret (v := .tuple #[dv 0 0 none 0 0, .int .i64 1]) ?_ rfl ⟨.inr ⟨HN.out, rfl⟩, b1⟩
    rw [results_ct rfl]
    go_simp
  have d2 : decide (next < m) = false := decide_eq_false h2
  have HN : Hid (1 ≤ m ∧ m ≤ next) := ⟨by omega⟩
  clear h1 h2 b1 HB2
  go_enter Try.func16, Try.ntmps16
  go_wp2_with fail
  clear d1 d2 z0 z1
  generalize ((w.alloc (.cells #[.int .i64 next, .slice a L.length cap] 24)).alloc (.cells #[.int .i64 0, .int .i64 0, .slice none 0 0] 31)).alloc (.cells #[.int .i64 m, .int .i64 next, .slice none 0 0] 31) = W3 at *
  obtain ⟨x0, y0, z0⟩ := HB.out W3 (Below.refl _ _)
  have HX := Hid.mk x0
  have HY := Hid.mk y0
  have HZ := Hid.mk z0
  clear HB x0 y0 z0
  obtain ⟨go, hgo⟩ : ∃ go, go = w.heap.size + 1 + 1 := ⟨_, rfl⟩
  rw [← hgo]
  have HG := Hid.mk hgo
  clear hgo
  go_loopw [7] (fun i wr => ∃ (k : Nat) (v : Value), k ≤ L.length ∧ i = .int .i64 (k : Int) ∧ Hid (Bd wr go (.int .i64 m) (.int .i64 next) v ∧ Cp (w.heap.size + 3) wr v (snL m (L.take k))) ∧ Hid (Below (w.heap.size + 2) W3 wr)) (fun i _ => L.length - (intOf i).toNat)
  case atStart => exact ⟨0, _, Nat.zero_le _, rfl, ⟨by rw [HG.out]; exact HZ.out, Cp.nil _ _ (by omega)⟩, ⟨Below.refl _ _⟩⟩
  case round =>
    clear HZ
    obtain ⟨k, v, hk, rfl, HO, hb⟩ := hrel
    have hbw : Below w.heap.size w wr := b2.trans (hb.out.mono (by omega))
    obtain ⟨p0, p1, _⟩ := (HX.out.low (by omega) hb.out).cells
    obtain ⟨oa, oc, rfl, oS⟩ := HO.out.2.ls
    by_cases hlt : k < L.length
    · have d1 : decide ((k : Int) < (L.length : Int)) = true := decide_eq_true (Int.ofNat_lt.2 hlt)
      have k2 : (k : Int) < (L.length : Int) := Int.ofNat_lt.2 hlt
      have hw1 : wrap64 ((k : Int) + 1) = ((k + 1 : Nat) : Int) := by unfold wrap64; omega
      obtain ⟨u, hu⟩ : ∃ u, L[k]? = some u := ⟨L[k], List.getElem?_eq_getElem hlt⟩
      obtain ⟨b, off, ma, mc, rfl, hbl, c0, c1, c2, c3, c4, hsl⟩ := (HL.out.s.at'.later hbw).get k u hu
      have hzu := HL.out.z u (List.mem_of_getElem? hu)
      by_cases hq : m ≤ u.seq
      · have d4 : decide (m ≤ u.seq) = true := decide_eq_true hq
        have hc := qOwn_any u wr.drew ma u.l.length mc rfl (hsl.later (Below.refl _ _).drew) hzu
        have hT := Hid.mk (snL_yes hu hq)
        have hlk : Hid ((snL m (L.take k)).length ≤ 1954687338260) := ⟨by have := snL_len m (L.take k); rw [List.length_take] at this; omega⟩
        obtain ⟨t0, t0', t1, tf⟩ := HO.out.1.cells
        have hbo3 : Hid (w.heap.size + 3 ≤ wr.heap.size) := ⟨HO.out.2.le⟩
        have hbo : Hid (go < wr.heap.size) := ⟨HO.out.1.lt⟩
        clear hu hsl hzu oS
        have h1 : Hid (∀ w', Below wr.heap.size wr w' → w'.cell? ⟨go, 2, none⟩ = some (.slice oa (snL m (L.take k)).length oc) ∧ w'.frozen? ⟨go, 2, none⟩ = false) := ⟨fun w' h => by
          obtain ⟨_, _, q1, q2⟩ := (HO.out.1.later h).cells
          exact ⟨q1, q2 2⟩⟩
        have e1 := (h1.out _ (Below.refl wr.heap.size wr).drew).1
        have HE : Hid (∀ v2 w2, Cp (w.heap.size + 3) w2 v2 (snL m (L.take k) ++ [u]) → Below (w.heap.size + 3) wr w2 → ∃ ya yc, v2 = .slice ya (snL m (L.take (k + 1))).length yc ∧ (w2.cell? ⟨go, 2, none⟩ = some (.slice oa (snL m (L.take k)).length oc) ∧ w2.frozen? ⟨go, 2, none⟩ = false) ∧ Hid ((Bd (w2.setCell ⟨go, 2, none⟩ v2) go (.int .i64 m) (.int .i64 next) v2 ∧ Cp (w.heap.size + 3) (w2.setCell ⟨go, 2, none⟩ v2) v2 (snL m (L.take (k + 1)))) ∧ Below (w.heap.size + 2) W3 (w2.setCell ⟨go, 2, none⟩ v2))) := ⟨fun v2 w2 h2 hb2 => by
          have hgo := HG.out
          have z2 := HO.out.1.low (by omega) hb2
          obtain ⟨_, _, q1, q2⟩ := z2.cells
          rw [← hT.out] at h2
          obtain ⟨ya, yc, e, _⟩ := h2.ls
          exact ⟨ya, yc, e, ⟨q1, q2 2⟩, ⟨⟨z2.set2 _, h2.low (by omega) _⟩, (hb.out.trans (hb2.mono (by omega))).setCell (p := ⟨go, 2, none⟩) (by show w.heap.size + 2 ≤ go; omega) _⟩⟩⟩
        clear tf
        go_wp2_with fail
        go_region_law (first
          | ((first | ((with_reducible (refine at_stp rfl ?_)); go_simp) | skip); go_at_call 23; with_reducible refine Calls.mono hc ?_; rintro e w1 ⟨ad, c, rfl, ow, b1⟩; have e2 := (h1.out w1 (below_seq (Below.refl _ _).drew b1)).1; have e3 := fun o => (h1.out (w1.alloc o) ((below_seq (Below.refl _ _).drew b1).alloc (below_seq (Below.refl _ _).drew b1).size o)).1)
          | ((with_reducible (refine at_sta rfl ?_)); refine step_cp (base := w.heap.size + 3) rfl _ _ rfl u rfl HO.out.2 (below_seq (Below.refl _ _).drew b1) ow rfl rfl hlk.out rfl rfl ?_; intro v2 w2 o2 b2'; obtain ⟨ya, yc, ey, ⟨st1, st2⟩, HF⟩ := HE.out v2 w2 o2 (Below.trans (((below_seq (Below.refl _ _).drew b1).alloc (below_seq (Below.refl _ _).drew b1).size _).mono hbo3.out) b2'); subst ey; clear o2 b2'))
        all_goals (
          clear st1 st2
          go_wp2_with fail
          exact ⟨⟨k + 1, _, hlt, by first | (rw [hw1]; done) | go_num, ⟨HF.out.1⟩, ⟨HF.out.2⟩⟩, by first | (rw [hw1]; exact lss_meas hlt) | (simp [intOf]; omega)⟩)
      · have d4 : decide (m ≤ u.seq) = false := decide_eq_false hq
        have hT := Hid.mk (snL_no hu hq)
        clear hu hsl hzu oS
        go_wp2_with fail
        exact ⟨⟨k + 1, _, hlt, by first | (rw [hw1]; done) | go_num, ⟨by rw [hT.out]; exact HO.out⟩, hb⟩, by first | (rw [hw1]; exact lss_meas hlt) | (simp [intOf]; omega)⟩
    · obtain rfl : k = L.length := Nat.le_antisymm hk (Nat.le_of_not_lt hlt)
      have d1 : decide ((L.length : Int) < (L.length : Int)) = false := decide_eq_false (fun q => Int.lt_irrefl _ q)
      have hO1 := HO.out.2
      rw [List.take_length] at hO1
      obtain ⟨t0, t0', t1, _⟩ := HO.out.1.cells
      rw [List.take_length] at t1 oS
      have hgo := HG.out
      have y0 := HY.out.low (by omega) hb.out
      obtain ⟨y1, y2, y3, yf⟩ := y0.cells
      have f0 := yf 0
      have f1 := yf 1
      have f2 := yf 2
      have z1 := ((y0.set0 (.int .i64 m)).set1 (.int .i64 next)).set2 (.slice oa (snL m L).length oc)
      have o1 := ((hO1.low (g := w.heap.size + 1) (j := 0) (by omega) (.int .i64 m)).low (g := w.heap.size + 1) (j := 1) (by omega) (.int .i64 next)).low (g := w.heap.size + 1) (j := 2) (by omega) (.slice oa (snL m L).length oc)
      have B1 := ((hbw.setCell (p := ⟨w.heap.size + 1, 0, none⟩) (Nat.le_succ _) (.int .i64 m)).setCell (p := ⟨w.heap.size + 1, 1, none⟩) (Nat.le_succ _) (.int .i64 next)).setCell (p := ⟨w.heap.size + 1, 2, none⟩) (Nat.le_succ _) (.slice oa (snL m L).length oc)
      have HO1 : Hid (SnP next m L w (((wr.setCell ⟨w.heap.size + 1, 0, none⟩ (.int .i64 m)).setCell ⟨w.heap.size + 1, 1, none⟩ (.int .i64 next)).setCell ⟨w.heap.size + 1, 2, none⟩ (.slice oa (snL m L).length oc)) (.returned (.tuple #[.agg #[.int .i64 m, .int .i64 next, .slice oa (snL m L).length oc], .int .i64 0]))) := ⟨.inl ⟨HN.out.1, HN.out.2, _, rfl, o1.base (by omega)⟩⟩
      clear y0 yf hbw oS hO1 HO hb o1 hgo
      generalize (snL m L).length = N at *
      go_wp2_with fail
      generalize ((wr.setCell ⟨w.heap.size + 1, 0, none⟩ (.int .i64 m)).setCell ⟨w.heap.size + 1, 1, none⟩ (.int .i64 next)).setCell ⟨w.heap.size + 1, 2, none⟩ (.slice oa N oc) = W4 at *
      obtain ⟨g0, g1, g2, _⟩ := z1.cells
      refine bodyPost_ret (v := .tuple #[.agg #[.int .i64 m, .int .i64 next, .slice oa N oc], .int .i64 0]) ?_ rfl ⟨HO1.out, B1⟩
      rw [results_ct rfl]
      go_simp
end Go.Proofs.Ythbdaadhcheggaa
