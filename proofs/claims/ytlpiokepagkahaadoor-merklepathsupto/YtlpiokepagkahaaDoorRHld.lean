/- The reference's Holds. -/
import Derived.Test.YtlpiokepagkahaaDoorRAb
import Derived.Test.YtlpiokepagkahaaDoorHol
namespace Go.Proofs.YtlpiokepagkahaaDoor
set_option linter.unusedVariables false
set_option linter.unusedSimpArgs false
open Go.RowKit
attribute [local go_sem ↓] Go.wp_at_zero Go.wp_at_succ
attribute [local go_sem ↓] ld23 st23
attribute [local go_sem] eqH
set_option maxHeartbeats 400000 in
set_option maxRecDepth 8000 in
theorem refHolds_bad (r : Hs) (n i : Int) (s : ByteArray) (v : Value) (w : World) (h : i < 0 ∨ n ≤ i) :
    Calls Tryd.prog 21 #[.agg (hv r).toArray, .int .i64 n, .int .i64 i, .string s, v] w fun e w' => e = .returned (.bool false) ∧ Below w.heap.size w w' := by
  go_enter Tryd.func21, Tryd.ntmps21
  by_cases h1 : i < 0
  · have d1 : decide (i < 0) = true := by simp; omega
    go_wp2_with fail
    go_ret
    exact ⟨rfl, ((Below.refl _ _).alloc (Nat.le_refl _) _)⟩
  · have d1 : decide (i < 0) = false := by simp; omega
    have d2 : decide (n ≤ i) = true := by simp; omega
    go_wp2_with fail
    go_ret
    exact ⟨rfl, ((Below.refl _ _).alloc (Nat.le_refl _) _)⟩
set_option maxHeartbeats 400000 in
set_option maxRecDepth 8000 in
theorem refHolds_some (r : Hs) (n0 i0 cap0 : Nat) (s : ByteArray) (a0 : Option Addr) (p0 : List Hs) (w : World) (hK : KIn w) (hP : PathAt w a0 p0) (hs : s.size ≤ 2097152) (hn : n0 ≤ 9223372036854775807) (hi : i0 < n0) (hpl : p0.length ≤ 9223372036854775807) :
    Calls Tryd.prog 21 #[.agg (hv r).toArray, .int .i64 (n0 : Int), .int .i64 (i0 : Int), .string s, .slice a0 p0.length cap0] w fun e w' => e = .returned (.bool (told r n0 i0 (leaf s.data.toList) p0)) ∧ Below w.heap.size w w' := by
  have d1 : decide ((i0 : Int) < 0) = false := by simp
  have d2 : decide ((n0 : Int) ≤ (i0 : Int)) = false := by simp; omega
  have hB0 := hK.lt
  obtain ⟨R, hR⟩ : ∃ R, R = told r n0 i0 (leaf s.data.toList) p0 := ⟨_, rfl⟩
  rw [← hR]
  obtain ⟨l0, hl0⟩ : ∃ l0, l0 = p0.length := ⟨_, rfl⟩
  rw [← hl0] at hpl ⊢
  have Hl0 : Hid (l0 = p0.length) := hl0
  clear hl0
  go_enter Tryd.func21, Tryd.ntmps21
  go_wp2_with fail
  have b0 : Below w.heap.size w (w.alloc (.cells (hv r).toArray 23)) := (Below.refl _ _).alloc (Nat.le_refl _) _
  have q0 : (w.alloc (.cells (hv r).toArray 23)).rangeAt w.heap.size 0 (hv r) := range_of_row (heap_alloc_new _ _)
  refine (refLeaf_hv s _ hs).mono ?_
  rintro e w2 ⟨rfl, bq⟩
  have b2 := below_seq b0 bq
  have q2 := rangeNext q0 bq
  have hBw2 : w.heap.size < w2.heap.size := by have := bq.size; simp at this; omega
  clear b0 q0 bq
  obtain ⟨x0, hx0⟩ : ∃ x, x = leaf s.data.toList := ⟨_, rfl⟩
  rw [← hx0] at hR ⊢
  clear hx0
  have tn := there_new w2 23
  have hst := store_hv tn x0
  go_wp2_with fail
  have bA : Below w2.heap.size w2 ((w2.alloc (.cells zero32 23)).setCells w2.heap.size 0 (hv x0)) := below_setCells (Nat.le_refl _) _ _ ((Below.refl _ _).alloc (Nat.le_refl _) _)
  obtain ⟨W, hW, bW, qW, xW, tW⟩ : ∃ W, W = (w2.alloc (.cells zero32 23)).setCells w2.heap.size 0 (hv x0) ∧ Below w.heap.size w W ∧ W.rangeAt w.heap.size 0 (hv r) ∧ W.rangeAt w2.heap.size 0 (hv x0) ∧ W.there w2.heap.size 0 32 :=
    ⟨_, rfl, below_seq b2 bA, rangeNext q2 bA, range_new tn x0, World.there_setCells tn _ _ _⟩
  rw [← hW]
  clear hW bA tn q2 b2 hst
  generalize hH : w2.heap.size = H at *
  generalize hB : w.heap.size = B at *
  try simp only [Act.put]
  go_loopw [1, 2, 12] (fun nv iv av wr => ∃ (m j d : Nat) (x : Hs), j < m ∧ m ≤ n0 ∧ d ≤ l0 ∧ nv = .int .i64 m ∧ iv = .int .i64 j ∧ av = .int .i64 d ∧ Below B w wr ∧ wr.rangeAt B 0 (hv r) ∧ wr.rangeAt H 0 (hv x) ∧ wr.there H 0 32 ∧ R = told r m j x (p0.drop d)) (fun nv _ _ _ => (intOf nv).toNat)
  case atStart => exact ⟨n0, i0, 0, x0, hi, Nat.le_refl _, Nat.zero_le _, rfl, rfl, rfl, bW, qW, xW, tW, hR⟩
  case round =>
    clear bW qW xW tW hR d1 d2 hi
    obtain ⟨m, j, d, x, hj, hmn, hdl, rfl, rfl, rfl, bel, q, xr, th, eR⟩ := hrel
    have kr : KIn wr := hK.below bel hB0
    have hs1 := bel.size
    by_cases h1 : 1 < m
    · have hd : decide ((1 : Int) < (m : Int)) = true := by simp; omega
      obtain ⟨j2, hj2⟩ : ∃ j2, j2 = j / 2 := ⟨_, rfl⟩
      have ej2 : (j : Int) / 2 = (j2 : Int) := by omega
      have Hj2 : Hid (j2 = j / 2) := hj2
      clear hj2
      obtain ⟨g2, hg2⟩ : ∃ g, g = m / 2 := ⟨_, rfl⟩
      have eg2 : (m : Int) / 2 = (g2 : Int) := by omega
      obtain ⟨m2, hm2⟩ : ∃ g, g = Tree.upLen m := ⟨_, rfl⟩
      have em2 : (g2 : Int) + (m : Int) % 2 = (m2 : Int) := by rw [hm2]; unfold Tree.upLen; omega
      have Hm2 : Hid (m2 = Tree.upLen m ∧ g2 = m / 2) := ⟨hm2, hg2⟩
      have hmu : m2 < m := by rw [hm2]; exact Tree.upLen_lt (by omega)
      have hjm : j2 < m2 := by rw [hm2, Hj2.out]; exact Tree.half_lt hj
      clear hm2 hg2
      have ew : IntKind.i64.wrap (m2 : Int) = (m2 : Int) := by rw [IntKind.wrap_i64]; omega
      obtain ⟨m1, hm1⟩ : ∃ m1, m1 = m - 1 := ⟨_, rfl⟩
      have em1 : (m : Int) - 1 = (m1 : Int) := by omega
      have ewm : IntKind.i64.wrap (m1 : Int) = (m1 : Int) := by rw [IntKind.wrap_i64]; omega
      have Hm1 : Hid (m1 = m - 1) := hm1
      clear hm1
      by_cases ho : j % 2 = 1
      · have hnb : Tree.nb j < m := by unfold Tree.nb; rw [if_pos ho]; omega
        by_cases hl : d < l0
        · have hle : decide ((l0 : Int) ≤ (d : Int)) = false := by simp; omega
          have hlen : d < p0.length := by have := Hl0.out; omega
          have hg : p0[d]? = some p0[d] := List.getElem?_eq_getElem hlen
          obtain ⟨b, off, rfl, hrng⟩ := hP d _ hg
          have hdrop : p0.drop d = p0[d] :: p0.drop (d + 1) := List.drop_eq_getElem_cons hlen
          generalize hy : p0[d] = y at *
          have r1 : wr.rangeAt b (off + d * 32) (hv y) := rangeBelow hrng bel (by
            have h0 := hrng 0 _ (hv_get _ 0 (by omega)); rw [← hB]; exact block_lt_of_cell h0)
          have hl1 := load23 (w := wr.drew) (World.rangeAt_drew _ _ _ _ |>.2 r1)
          have hl2 := load23 (w := wr.drew) (World.rangeAt_drew _ _ _ _ |>.2 xr)
          have k0 : (0 : Int) ≤ (d : Int) := by omega
          have k1 : (d : Int) < (l0 : Int) := by omega
          obtain ⟨d1, hd1⟩ : ∃ d1, d1 = d + 1 := ⟨_, rfl⟩
          have ed1 : (d : Int) + 1 = (d1 : Int) := by omega
          have ew1 : IntKind.i64.wrap (d1 : Int) = (d1 : Int) := by rw [IntKind.wrap_i64]; omega
          have Hd1 : Hid (d1 = d + 1) := hd1
          clear hd1
          have hodd : (j : Int) % 2 = 1 := by omega
          have eL : Tree.led node j x y = node y x := by unfold Tree.led; rw [if_pos (by omega)]
          have Hln : Hid (Tree.led node j x y = node y x) := eL
          clear eL
          go_wp2_with fail
          go_region_law (go_simp; go_at_call 19; refine (refNode_hv y x _ (kr.seq ((Below.refl _ _).drew))).mono ?_; rintro e w3 ⟨rfl, bq⟩; have t3 := thereNext (World.there_drew _ _ _ _ |>.2 th) bq; have hst3 := store_hv t3 (node y x))
          all_goals (go_wp2_with fail; go_round)
          all_goals first
            | (show (intOf (.int .i64 (m2 : Int))).toNat < (intOf (.int .i64 (m : Int))).toNat; simp [intOf]; omega)
            | (have b3 : Below wr.heap.size wr w3 := undrew bq
               refine ⟨m2, j2, d1, node y x, hjm, by omega, by have := Hd1.out; omega, rfl, rfl, rfl, below_setCells (by omega) _ _ (bel.trans (b3.mono (by omega))), World.rangeAt_setCells_apart (rangeNext q b3) _ _ _ (Or.inl (by omega)), range_new t3 _, World.there_setCells t3 _ _ _, ?_⟩
               rw [eR, hdrop, told_side r j x y _ (by omega) hnb, Hm2.out.1, Hj2.out, Hd1.out, Hln.out])
        · have hle : decide ((l0 : Int) ≤ (d : Int)) = true := by simp; omega
          have hem : p0.drop d = [] := List.drop_eq_nil_of_le (by have := Hl0.out; omega)
          have eF : R = false := by rw [eR, hem, told_none r j x (by omega) hnb]
          have hodd : (j : Int) % 2 = 1 := by omega
          clear eR
          subst eF
          go_wp2_with fail
          go_ret
          subst hB
          exact ⟨rfl, bel⟩
      · by_cases hal : j = m - 1
        · have hbe : ((j : Int) == (m1 : Int)) = true := by have := Hm1.out; simp; omega
          have hodd : (j : Int) % 2 = 0 := by omega
          have hnb : ¬ Tree.nb j < m := by unfold Tree.nb; rw [if_neg ho]; omega
          clear hal
          go_wp2_with fail
          go_round
          case rel => exact ⟨m2, j2, d, x, hjm, by omega, hdl, rfl, rfl, rfl, bel, q, xr, th, by rw [eR, told_alone r j x _ (by omega) hnb, Hm2.out.1, Hj2.out]⟩
          case measure => simp [intOf]; omega
        · have hbe : ((j : Int) == (m1 : Int)) = false := by have := Hm1.out; simp; omega
          have hnb : Tree.nb j < m := by unfold Tree.nb; rw [if_neg ho]; omega
          by_cases hl : d < l0
          · have hle : decide ((l0 : Int) ≤ (d : Int)) = false := by simp; omega
            have hlen : d < p0.length := by have := Hl0.out; omega
            have hg : p0[d]? = some p0[d] := List.getElem?_eq_getElem hlen
            obtain ⟨b, off, rfl, hrng⟩ := hP d _ hg
            have hdrop : p0.drop d = p0[d] :: p0.drop (d + 1) := List.drop_eq_getElem_cons hlen
            generalize hy : p0[d] = y at *
            have r1 : wr.rangeAt b (off + d * 32) (hv y) := rangeBelow hrng bel (by
              have h0 := hrng 0 _ (hv_get _ 0 (by omega)); rw [← hB]; exact block_lt_of_cell h0)
            have hl1 := load23 (w := wr.drew) (World.rangeAt_drew _ _ _ _ |>.2 r1)
            have hl2 := load23 (w := wr.drew) (World.rangeAt_drew _ _ _ _ |>.2 xr)
            have k0 : (0 : Int) ≤ (d : Int) := by omega
            have k1 : (d : Int) < (l0 : Int) := by omega
            obtain ⟨d1, hd1⟩ : ∃ d1, d1 = d + 1 := ⟨_, rfl⟩
            have ed1 : (d : Int) + 1 = (d1 : Int) := by omega
            have ew1 : IntKind.i64.wrap (d1 : Int) = (d1 : Int) := by rw [IntKind.wrap_i64]; omega
            have Hd1 : Hid (d1 = d + 1) := hd1
            clear hd1
            have hodd : (j : Int) % 2 = 0 := by omega
            have eL : Tree.led node j x y = node x y := by unfold Tree.led; rw [if_neg (by omega)]
            have Hln : Hid (Tree.led node j x y = node x y) := eL
            clear eL
            go_wp2_with fail
            go_region_law (go_simp; go_at_call 19; refine (refNode_hv x y _ (kr.seq ((Below.refl _ _).drew))).mono ?_; rintro e w3 ⟨rfl, bq⟩; have t3 := thereNext (World.there_drew _ _ _ _ |>.2 th) bq; have hst3 := store_hv t3 (node x y))
            all_goals (go_wp2_with fail; go_round)
            all_goals first
              | (show (intOf (.int .i64 (m2 : Int))).toNat < (intOf (.int .i64 (m : Int))).toNat; simp [intOf]; omega)
              | (have b3 : Below wr.heap.size wr w3 := undrew bq
                 refine ⟨m2, j2, d1, node x y, hjm, by omega, by have := Hd1.out; omega, rfl, rfl, rfl, below_setCells (by omega) _ _ (bel.trans (b3.mono (by omega))), World.rangeAt_setCells_apart (rangeNext q b3) _ _ _ (Or.inl (by omega)), range_new t3 _, World.there_setCells t3 _ _ _, ?_⟩
                 rw [eR, hdrop, told_side r j x y _ (by omega) hnb, Hm2.out.1, Hj2.out, Hd1.out, Hln.out])
          · have hle : decide ((l0 : Int) ≤ (d : Int)) = true := by simp; omega
            have hem : p0.drop d = [] := List.drop_eq_nil_of_le (by have := Hl0.out; omega)
            have eF : R = false := by rw [eR, hem, told_none r j x (by omega) hnb]
            have hodd : (j : Int) % 2 = 0 := by omega
            clear eR
            subst eF
            go_wp2_with fail
            go_ret
            subst hB
            exact ⟨rfl, bel⟩
    · obtain rfl : m = 1 := by omega
      have hd : decide ((1 : Int) < ((1 : Nat) : Int)) = false := by simp
      have hl1 := load23 xr
      have hl2 := load23 q
      by_cases hl : d < l0
      · have hne : ((d : Int) == (l0 : Int)) = false := by simp; omega
        have hlen : d < p0.length := by have := Hl0.out; omega
        have eF : R = false := by rw [eR, List.drop_eq_getElem_cons hlen, told_left r j x _ _ (by omega)]
        clear eR
        subst eF
        go_wp2_with fail
        go_ret
        subst hB
        exact ⟨rfl, bel⟩
      · obtain rfl : d = l0 := by omega
        have hem : p0.drop d = [] := List.drop_eq_nil_of_le (by have := Hl0.out; omega)
        have eF : R = eqb x r := by rw [eR, hem, told_one r j x (by omega)]
        clear eR
        subst eF
        go_wp2_with fail
        go_ret
        subst hB
        exact ⟨rfl, bel⟩
end Go.Proofs.YtlpiokepagkahaaDoor
