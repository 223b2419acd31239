/- StackPushes: the walk. -/
import Derived.Test.YtaonjmmdgfbceaaHed
namespace Go.Proofs.Ytaonjmmdgfbceaa
set_option linter.unusedVariables false
set_option linter.unusedSimpArgs false
open Go.RowKit
attribute [local go_sem ↓] Go.wp_at_zero Go.wp_at_succ
attribute [local go_sem ↓] slVe
theorem Le.li {base : Nat} {w : World} {a : Option Addr} {n c : Nat} {L : List Vs} (h : Le base w (.slice a n c) L) (hl : L.length ≤ 1954687338240) (hz : ∀ u ∈ L, u.l.length ≤ 4398046510976) : Li w L a L.length c ∧ L.length + 2 ≤ c ∧ c ≤ 9223372036854775807 ∧ (a = none → c = 0) := by
  obtain ⟨a', c', e, s⟩ := h.ls
  injection e with e1 e2 e3
  subst e1 e3
  have h2 := s.take L.length
  rw [List.take_left] at h2
  exact ⟨⟨rfl, h2, hl, hz⟩, by have := s.le; simpa using this, s.max, s.nil⟩
theorem puL_li {L : List Vs} {v : Vs} (hl : L.length ≤ 1954687338230) (hz : ∀ u ∈ L, u.l.length ≤ 4398046510976) (hv : v.l.length ≤ 4398046510976) : (puL L v).length ≤ 1954687338240 ∧ ∀ u ∈ puL L v, u.l.length ≤ 4398046510976 := by
  unfold puL
  split
  · refine ⟨by simp; omega, fun u hu => ?_⟩
    rcases List.mem_append.1 hu with q | q
    · exact hz u q
    · simp at q; subst q; exact hv
  · exact ⟨by simp, by simp⟩
theorem toV_z {L : List Vs} (hz : ∀ u ∈ L, u.l.length ≤ 4398046510976) : (toV L).l.length ≤ 4398046510976 := by
  unfold toV
  split
  · simp [vs0]
  · rename_i u hu
    split
    · simp [vs0]
    · exact hz u (List.mem_of_getLast? hu)
theorem Ow.asSl {base : Nat} {w : World} {a : Option Addr} {n c : Nat} {l : List En} (h : Ow base w (.slice a n c) l) : Sl w a c l := by
  obtain ⟨a', c', e', s'⟩ := h.sl
  injection e' with e1 e2 e3
  subst e1 e3
  exact s'
/-- a list with one version, freshly built -/
theorem li_one {w : World} {v : Vs} {va : Option Addr} {vc : Nat} (hV : Vi w v va v.l.length vc) : Li (w.alloc (.cells #[str v.key, .int .i64 v.seq, .bool v.mkr, str v.data, .slice va v.l.length vc] 33)) [v] (some ⟨w.heap.size, 0, none⟩) 1 1 := by
  have hb := (Below.refl w.heap.size w).alloc (Nat.le_refl _) (.cells #[str v.key, .int .i64 v.seq, .bool v.mkr, str v.data, .slice va v.l.length vc] 33)
  obtain ⟨g0, g1, g2, g3, g4, _⟩ := (Bv.new w (str v.key) (.int .i64 v.seq) (.bool v.mkr) (str v.data) (.slice va v.l.length vc)).cells
  refine ⟨rfl, ⟨⟨fun k u hu => ?_⟩, by simp, by omega, fun q => by cases q⟩, by simp, fun u hu => by simp at hu; subst hu; exact hV.z⟩
  have hk : k = 0 := by have := (List.getElem?_eq_some_iff.1 hu).1; simp at this; omega
  subst hk
  simp at hu
  subst hu
  exact ⟨w.heap.size, 0, va, vc, rfl, by simp, g0, g1, g2, g3, g4, hV.s.later hb⟩
set_option maxHeartbeats 4000000 in
theorem stackPushes_walk (L : List Vs) (a : Option Addr) (cap : Nat) (v : Vs) (va : Option Addr) (vc : Nat) (W : World) (hL : Li W L a L.length cap) (hl1 : L.length ≤ 1954687338211) (hV : Vi W v va v.l.length vc) :
    Calls Try.prog 6 #[.slice a L.length cap, vv v.key v.seq v.mkr v.data va v.l.length vc] W fun e W' => e = .returned (.bool true) ∧ Below W.heap.size W W' := by
  have b0 := (Below.refl W.heap.size W).alloc (Nat.le_refl _) (.cells #[str v.key, .int .i64 v.seq, .bool v.mkr, str v.data, .slice va v.l.length vc] 33)
  have z0 := Bv.new W (str v.key) (.int .i64 v.seq) (.bool v.mkr) (str v.data) (.slice va v.l.length vc)
  have hLL := Hid.mk hL
  have hVV := Hid.mk hV
  clear hL hV
  go_enter Try.func6, Try.ntmps6
  go_wp2_with fail
  with_reducible refine Calls.mono (head_any _) ?_
  rintro e w1 ⟨rfl, b1⟩
  dsimp only
  have B1 := b0.trans (b1.mono b0.size)
  have z1 := z0.later b1
  clear b0 b1 z0
  obtain ⟨p0, p1, p2, p3, p4, _⟩ := z1.cells
  go_wp2_with fail
  with_reducible refine Calls.mono (rPush_any L v w1 a _ cap va _ vc (hLL.out.later B1) (hVV.out.later B1)) ?_
  rintro e w2 ⟨r2, rfl, k2, b2⟩
  dsimp only
  have B2 := B1.trans (b2.mono B1.size)
  have z2 := z1.later b2
  clear b2 z1 B1 p0 p1 p2 p3 p4
  go_wp2_with fail
  with_reducible refine Calls.mono (rTop_any L w2 a _ cap (hLL.out.later B2)) ?_
  rintro e w3 ⟨ta, tc, rfl, to, b3⟩
  dsimp only
  go_wp2_with fail
  have B3 := B2.trans (b3.mono B2.size)
  have z3 := z2.later b3
  have k3 := k2.later b3
  have bt := (Below.refl w3.heap.size w3).alloc (Nat.le_refl _) (.cells #[str (toV L).key, .int .i64 (toV L).seq, .bool (toV L).mkr, str (toV L).data, .slice ta (toV L).l.length tc] 33)
  have t4 := Bv.new w3 (str (toV L).key) (.int .i64 (toV L).seq) (.bool (toV L).mkr) (str (toV L).data) (.slice ta (toV L).l.length tc)
  have B4 := B3.trans (bt.mono B3.size)
  have z4 := z3.later bt
  have k4 := k3.later bt
  have to4 := to.later bt
  clear b3 bt B2 B3 z2 z3 k2 k3 to
  generalize w3.alloc (.cells #[str (toV L).key, .int .i64 (toV L).seq, .bool (toV L).mkr, str (toV L).data, .slice ta (toV L).l.length tc] 33) = w4 at *
  with_reducible refine Calls.mono (lent_any L w4 a _ cap (hLL.out.later B4)) ?_
  rintro e w5 ⟨r5, rfl, m5, b5⟩
  obtain ⟨ma, mc, rfl, _⟩ := m5.ls
  dsimp only
  have B5 := B4.trans (b5.mono B4.size)
  have z5 := z4.later b5
  have k5 := k4.later b5
  have t5 := t4.later b5
  have to5 := to4.later b5
  clear b5 B4 z4 k4 t4 to4
  obtain ⟨p0, p1, p2, p3, p4, _⟩ := z5.cells
  have V5 := hVV.out.later B5
  have l6 := li_one V5
  have bb := (Below.refl w5.heap.size w5).alloc (Nat.le_refl _) (.cells #[str v.key, .int .i64 v.seq, .bool v.mkr, str v.data, .slice va v.l.length vc] 33)
  have B6 := B5.trans (bb.mono B5.size)
  have z6 := z5.later bb
  have k6 := k5.later bb
  have t6 := t5.later bb
  have to6 := to5.later bb
  have m6 := m5.later bb
  go_wp2_with fail
  generalize w5.alloc (.cells #[str v.key, .int .i64 v.seq, .bool v.mkr, str v.data, .slice va v.l.length vc] 33) = w6 at *
  clear bb B5 z5 k5 t5 to5 m5 p0 p1 p2 p3 p4 V5
  with_reducible refine Calls.mono (lent_any [v] w6 _ 1 1 l6) ?_
  rintro e w7 ⟨r7, rfl, n7, b7⟩
  obtain ⟨na, nc, rfl, _⟩ := n7.ls
  dsimp only
  have B7 := B6.trans (b7.mono B6.size)
  have z7 := z6.later b7
  have k7 := k6.later b7
  have t7 := t6.later b7
  have to7 := to6.later b7
  have m7 := m6.later b7
  clear b7 B6 z6 k6 t6 to6 m6 l6
  have hzz := hLL.out.z
  obtain ⟨M7, q1, q2, q3⟩ := m7.li (by omega) hzz
  have hr := fun w => run_slV ma (L.length + 2) mc L.length (by omega) q2 q3 w
  have hzv := hVV.out.z
  obtain ⟨N7, _, _, _⟩ := n7.li (by simp) (by intro u hu; simp at hu; subst hu; exact hzv)
  obtain ⟨nb, no, nma, nmc, hna, hnb, d0, d1, d2, d3, d4, ds⟩ := N7.s.at'.get 0 v rfl
  subst hna
  simp only [Nat.zero_mul, Nat.add_zero] at d0 d1 d2 d3 d4
  have hpu : ∀ w', Below w7.heap.size w7 w' → Calls Try.prog 15 #[.slice ma L.length mc, vv v.key v.seq v.mkr v.data nma v.l.length nmc] w' fun e w'' => ∃ r, e = .returned (.tuple #[r, .int .i64 (puE L v)]) ∧ Cp w7.heap.size w'' r (puL L v) ∧ Below w7.heap.size w7 w'' := fun w' hb => by
    refine (push_any L v w' ma _ mc nma _ nmc (M7.later hb) ⟨rfl, ds.later hb, hzv⟩).mono ?_
    rintro e w'' ⟨r, rfl, hc, hb2⟩
    exact ⟨r, rfl, hc.base hb.size, hb.trans (hb2.mono hb.size)⟩
  have HS : Hid (∀ w', Below w7.heap.size w7 w' → Below w7.heap.size w7 w' ∧ w'.cell? ⟨nb, no, none⟩ = some (str v.key) ∧ w'.cell? ⟨nb, no + 1, none⟩ = some (.int .i64 v.seq) ∧ w'.cell? ⟨nb, no + 2, none⟩ = some (.bool v.mkr) ∧ w'.cell? ⟨nb, no + 3, none⟩ = some (str v.data) ∧ w'.cell? ⟨nb, no + 4, none⟩ = some (.slice nma v.l.length nmc)) := ⟨fun w' hB => ⟨hB, (hB.cell (p := ⟨nb, _, none⟩) hnb).trans d0, (hB.cell (p := ⟨nb, _, none⟩) hnb).trans d1, (hB.cell (p := ⟨nb, _, none⟩) hnb).trans d2, (hB.cell (p := ⟨nb, _, none⟩) hnb).trans d3, (hB.cell (p := ⟨nb, _, none⟩) hnb).trans d4⟩⟩
  go_wp2_with fail
  clear d0 d1 d2 d3 d4
  go_region_held3 (fun w' => Below w7.heap.size w7 w' ∧ w'.cell? ⟨nb, no, none⟩ = some (str v.key) ∧ w'.cell? ⟨nb, no + 1, none⟩ = some (.int .i64 v.seq) ∧ w'.cell? ⟨nb, no + 2, none⟩ = some (.bool v.mkr) ∧ w'.cell? ⟨nb, no + 3, none⟩ = some (str v.data) ∧ w'.cell? ⟨nb, no + 4, none⟩ = some (.slice nma v.l.length nmc)) (first
    | exact HS.out _ (Below.refl _ _).drew
    | exact HS.out _ b8) (
    (go_at_call 15; with_reducible refine Calls.mono (hpu _ (And.left (by assumption))) ?_; rintro e w8 ⟨r8, rfl, k8, b8⟩))
  have B8 := B7.trans (b8.mono B7.size)
  go_wp2_with fail
  have k8' := k7.later b8
  have t8 := t7.later b8
  have z8 := z7.later b8
  have to8 := to7.later b8
  have m8 := m7.later b8
  have n8 := n7.later b8
  have M8 := M7.later b8
  clear b8 B7 k7 t7 z7 to7 m7 n7 M7 N7 HS hpu ds
  with_reducible refine Calls.mono (top_any L w8 ma _ mc M8) ?_
  rintro e w9 ⟨qa, qc, rfl, qo, b9⟩
  dsimp only
  have bq := (Below.refl w9.heap.size w9).alloc (Nat.le_refl _) (.cells #[str (toV L).key, .int .i64 (toV L).seq, .bool (toV L).mkr, str (toV L).data, .slice qa (toV L).l.length qc] 33)
  have u9 := Bv.new w9 (str (toV L).key) (.int .i64 (toV L).seq) (.bool (toV L).mkr) (str (toV L).data) (.slice qa (toV L).l.length qc)
  have b89 := below_seq b9 bq
  have B9 := B8.trans (b89.mono B8.size)
  have k9 := k8.later b89
  have k9' := k8'.later b89
  have t9 := t8.later b89
  have z9 := z8.later b89
  have to9 := to8.later b89
  have qo9 := qo.later bq
  have m9 := m8.later b89
  have n9 := n8.later b89
  clear b9 bq b89 B8 k8 k8' t8 z8 to8 qo m8 n8 M8 hr
  go_wp2_with fail
  generalize w9.alloc (.cells #[str (toV L).key, .int .i64 (toV L).seq, .bool (toV L).mkr, str (toV L).data, .slice qa (toV L).l.length qc] 33) = w10 at *
  obtain ⟨hpl, hpz⟩ := puL_li (v := v) (by omega) hzz hzv
  have htz := toV_z hzz
  obtain ⟨pa, pc, rfl, P9⟩ := k9.li hpl hpz
  obtain ⟨pa', pc', rfl, P9'⟩ := k9'.li hpl hpz
  have hsm := sameList_any _ _ w10 _ _ _ _ _ _ P9 P9'
  rw [svL_true rfl] at hsm
  with_reducible refine Calls.mono hsm ?_
  rintro e w11 ⟨rfl, b11⟩
  dsimp only
  have B11 := B9.trans (b11.mono B9.size)
  have t11 := t9.later b11
  have u11 := u9.later b11
  have z11 := z9.later b11
  have to11 := to9.later b11
  have qo11 := qo9.later b11
  have m11 := m9.later b11
  have n11 := n9.later b11
  clear b11 B9 t9 u9 z9 to9 qo9 m9 n9 hsm k9 k9' P9 P9'
  obtain ⟨f0, f1, f2, f3, f4, _⟩ := t11.cells
  obtain ⟨g0, g1, g2, g3, g4, _⟩ := u11.cells
  have hsa := rSame_any (toV L) (toV L) w11 qa _ qc rfl qo11.asSl.at' (by omega) ta _ tc rfl to11.asSl.at' (by omega)
  rw [sv_true rfl] at hsa
  go_wp2_with fail
  with_reducible refine Calls.mono hsa ?_
  rintro e w12 ⟨rfl, b12⟩
  dsimp only
  have B12 := B11.trans (b12.mono B11.size)
  have z12 := z11.later b12
  have m12 := m11.later b12
  have n12 := n11.later b12
  clear b12 B11 t11 u11 z11 to11 qo11 m11 n11 hsa f0 f1 f2 f3 f4 g0 g1 g2 g3 g4
  go_wp2_with fail
  with_reducible refine Calls.mono (stays_any L _ w12 ma mc a _ cap m12 (hLL.out.later B12)) ?_
  rintro e w13 ⟨rfl, b13⟩
  dsimp only
  have B13 := B12.trans (b13.mono B12.size)
  have z13 := z12.later b13
  have n13 := n12.later b13
  have V13 := hVV.out.later B13
  have l13 := li_one V13
  have bb := (Below.refl w13.heap.size w13).alloc (Nat.le_refl _) (.cells #[str v.key, .int .i64 v.seq, .bool v.mkr, str v.data, .slice va v.l.length vc] 33)
  have n14 := n13.later bb
  have B14 := B13.trans (bb.mono B13.size)
  obtain ⟨f0, f1, f2, f3, f4, _⟩ := z13.cells
  clear b13 B12 z12 m12 n12 n13 bb V13
  go_wp2_with fail
  with_reducible refine Calls.mono (stays_any [v] _ _ (some ⟨nb, no, none⟩) nc _ 1 1 n14 l13) ?_
  rintro e w15 ⟨rfl, b15⟩
  dsimp only
  have B15 := B14.trans (b15.mono B14.size)
  clear b15 l13 n14 f0 f1 f2 f3 f4 z13
  go_wp2_with fail
  go_ret
  exact ⟨rfl, B15⟩
end Go.Proofs.Ytaonjmmdgfbceaa
