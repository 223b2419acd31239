import Derived.Test.YtgcdnanfnbdjjaaGreatBx
/- copied, Own, own: a version with pairs of its own. -/
namespace Go.Proofs.YtgcdnanfnbdjjaaGreat
set_option linter.unusedVariables false
set_option linter.unusedSimpArgs false
open Go.RowKit
attribute [local go_sem ↓] Go.wp_at_zero Go.wp_at_succ
attribute [local go_sem ↓] slPe
set_option maxHeartbeats 2000000 in
theorem copied_any (v : Vs) (w : World) (a : Option Addr) (n cap : Nat) (hn : v.l.length = n) (hS : Sl w a cap v.l) (hl : v.l.length ≤ 4398046510976) :
    Calls Tryz.prog 78 #[vv v.key v.seq v.mkr v.data a n cap] w fun e w' => ∃ ad c, e = .returned (vv v.key v.seq v.mkr v.data ad v.l.length c) ∧ Ow w.heap.size w' (.slice ad v.l.length c) v.l ∧ Below w.heap.size w w' := by
  obtain ⟨key, seq, mkr, data, l⟩ := v
  simp only at hn hS hl ⊢
  subst hn
  have b1 := (Below.refl w.heap.size w).alloc (Nat.le_refl _) (.cells #[str key, .int .i64 seq, .bool mkr, str data, .slice a l.length cap] 39)
  have b2 := b1.alloc b1.size (.cells #[.string ⟨#[]⟩, .int .i64 0, .bool false, .string ⟨#[]⟩, .slice none 0 0] 39)
  have b2e := b2.alloc b2.size (.cells #[] 41)
  have HX : Hid (∀ w1, Below (w.heap.size + 2) ((w.alloc (.cells #[str key, .int .i64 seq, .bool mkr, str data, .slice a l.length cap] 39)).alloc (.cells #[.string ⟨#[]⟩, .int .i64 0, .bool false, .string ⟨#[]⟩, .slice none 0 0] 39)) w1 → Bv w1 w.heap.size (str key) (.int .i64 seq) (.bool mkr) (str data) (.slice a l.length cap) ∧ Bv w1 (w.heap.size + 1) (.string ⟨#[]⟩) (.int .i64 0) (.bool false) (.string ⟨#[]⟩) (.slice none 0 0)) := ⟨fun w1 h => by
    refine ⟨?_, ?_⟩
    · unfold Bv; rw [h.block _ (by omega), heap_alloc_old _ _ (by simp)]; exact heap_alloc_new _ _
    · unfold Bv; rw [h.block _ (by omega)]
      have := heap_alloc_new (w.alloc (.cells #[str key, .int .i64 seq, .bool mkr, str data, .slice a l.length cap] 39)) (.cells #[.string ⟨#[]⟩, .int .i64 0, .bool false, .string ⟨#[]⟩, .slice none 0 0] 39)
      rw [World.size_alloc] at this
      exact this⟩
  have s2 := hS.later b2
  obtain ⟨u0, u1, u2, u3, u4, _⟩ := (HX.out _ ((Below.refl (w.heap.size + 2) _).alloc (by simp) (.cells #[] 41))).1.cells
  go_enter Tryz.func78, Tryz.ntmps78
  go_wp2_with (refine app_sliceB rfl _ _ rfl l (Ow.nil _ (w.heap.size + 2) (by simp)) s2 rfl (by simp; omega) rfl rfl ?_; intro v3 w3 o3 b3; rw [List.nil_append] at o3; obtain ⟨a5, c5, rfl, s3⟩ := o3.sl; obtain ⟨z3, r3⟩ := HX.out w3 (b3); obtain ⟨x0, x1, x2, x3, x4, xf⟩ := z3.cells; have f4 := xf 4; have z6 := z3.set4 (.slice a5 l.length c5); have r6 := r3.other (g2 := w.heap.size) (j := 4) (by omega) (.slice a5 l.length c5); obtain ⟨p0, p1, p2, p3, p4, _⟩ := z6.cells; obtain ⟨q0, q1, q2, q3, q4, qf⟩ := r6.cells; have qf0 := qf 0; have qf1 := qf 1; have qf2 := qf 2; have qf3 := qf 3; have qf4 := qf 4; clear xf qf)
  rw [s5_eq]
  have hno : (Value.slice a5 l.length c5).ownBlock ≠ some w.heap.size := fun q => by
    have := (o3.own.lt _ q).1
    omega
  have hno2 : (Value.slice a5 l.length c5).ownBlock ≠ some (w.heap.size + 1) := fun q => by
    have := (o3.own.lt _ q).1
    omega
  have o6 := (o3.base (b' := w.heap.size) (by omega)).other (g := w.heap.size) (j := 4) hno (.slice a5 l.length c5)
  have B6 := (b2.trans (b3.mono (by omega))).setCell (p := ⟨w.heap.size, 4, none⟩) (Nat.le_refl _) (.slice a5 l.length c5)
  have z7 := r6.s5 (str key) (.int .i64 seq) (.bool mkr) (str data) (.slice a5 l.length c5)
  have o7 := o6.s5 hno2 (str key) (.int .i64 seq) (.bool mkr) (str data) (.slice a5 l.length c5)
  have B7 := Below.s5 B6 (R := w.heap.size + 1) (by omega) (str key) (.int .i64 seq) (.bool mkr) (str data) (.slice a5 l.length c5)
  generalize s5 (w3.setCell ⟨w.heap.size, 4, none⟩ (.slice a5 l.length c5)) (w.heap.size + 1) (str key) (.int .i64 seq) (.bool mkr) (str data) (.slice a5 l.length c5) = W7 at *
  obtain ⟨g0, g1, g2, g3, g4, _⟩ := z7.cells
  refine bodyPost_ret (v := vv key seq mkr data a5 l.length c5) ?_ rfl ⟨a5, c5, rfl, o7, B7⟩
  rw [results_cell1 rfl]
  go_simp
end Go.Proofs.YtgcdnanfnbdjjaaGreat

/- copies, Copy, copied: a list of one's own. -/
namespace Go.Proofs.YtgcdnanfnbdjjaaGreat
set_option linter.unusedVariables false
set_option linter.unusedSimpArgs false
open Go.RowKit
attribute [local go_sem ↓] Go.wp_at_zero Go.wp_at_succ
attribute [local go_sem ↓] slPe
set_option maxHeartbeats 2000000 in
theorem copies_any (L : List Vs) (w : World) (a : Option Addr) (n cap : Nat) (hn : L.length = n) (hS : Ls w a cap L) (hL : L.length ≤ 1954687338240) (hz : ∀ v ∈ L, v.l.length ≤ 4398046510976) :
    Calls Tryz.prog 80 #[.slice a n cap] w fun e w' => ∃ v, e = .returned v ∧ Cp w.heap.size w' v L ∧ Below w.heap.size w w' := by
  subst hn
  go_enter Tryz.func80, Tryz.ntmps80
  go_wp2_with fail
  have C0 := Cp.nil w w.heap.size (Nat.le_refl _)
  go_loopw [3, 8] (fun o i wr => ∃ k : Nat, k ≤ L.length ∧ i = .int .i64 (k : Int) ∧ Hid (Cp w.heap.size wr o (L.take k)) ∧ Below w.heap.size w wr) (fun o i _ => L.length - (intOf i).toNat)
  case atStart => exact ⟨0, by omega, rfl, ⟨by simpa using C0⟩, Below.refl _ _⟩
  case round =>
    clear C0
    obtain ⟨k, hk, rfl, hO, hb⟩ := hrel
    by_cases hlt : k < L.length
    · have d1 : decide ((k : Int) < (L.length : Int)) = true := decide_eq_true (by omega)
      have k2 : (k : Int) < (L.length : Int) := by omega
      obtain ⟨u, hu⟩ : ∃ u, L[k]? = some u := ⟨L[k], List.getElem?_eq_getElem hlt⟩
      obtain ⟨b, off, ma, mc, rfl, hbl, c0, c1, c2, c3, c4, hsl⟩ := (hS.at'.later hb).get k u hu
      have hzu := hz u (List.mem_of_getElem? hu)
      have hc := fun w a cap h => copied_any u w a u.l.length cap rfl h hzu
      have hT := Hid.mk (takeV hu)
      have hlk : Hid ((L.take k).length ≤ 1954687338260) := ⟨by rw [List.length_take]; omega⟩
      have hw1 : wrap64 ((k : Int) + 1) = ((k + 1 : Nat) : Int) := by unfold wrap64; omega
      clear hu hS hL hz
      have bx := (Below.refl wr.heap.size wr).alloc (Nat.le_refl _) (.cells #[str u.key, .int .i64 u.seq, .bool u.mkr, str u.data, .slice ma u.l.length mc] 39)
      have hO1 := hO.out.later bx
      have hS1 := hsl.later bx
      have hcc := hc _ _ _ hS1
      go_wp2_with (first
        | (go_at_call 78; refine hcc.mono ?_; rintro e w1 ⟨ad, c, rfl, ow, b1⟩)
        | (refine app_cp rfl _ _ rfl u rfl rfl hO1 b1 ow rfl hlk.out rfl rfl ?_; intro v2 w2 o2 b2))
      exact ⟨⟨k + 1, by omega, by go_num, ⟨by rw [hT.out]; exact o2⟩, (hb.trans (bx.mono hb.size)).trans b2⟩, by rw [hw1]; exact Nat.sub_lt_sub_left hlt (Nat.lt_succ_self k)⟩
    · obtain rfl : k = L.length := by omega
      have d1 : decide ((L.length : Int) < (L.length : Int)) = false := decide_eq_false (by omega)
      go_wp2_with fail
      go_ret
      exact ⟨_, rfl, by have := hO.out; rwa [List.take_length] at this, hb⟩
end Go.Proofs.YtgcdnanfnbdjjaaGreat
