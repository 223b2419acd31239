/- BucketApart: the walk. -/
import Derived.Test.YtgcdnanfnbdjjaaGreatGx
namespace Go.Proofs.YtgcdnanfnbdjjaaGreat
set_option linter.unusedVariables false
set_option linter.unusedSimpArgs false
open Go.RowKit
attribute [local go_sem ↓] Go.wp_at_zero Go.wp_at_succ slVe slPe
attribute [-go_sem] Go.Builtin.append_
theorem bbk_of {w : World} {g : Nat} {z0 z1 z2 z3 z4 z5 : Value} (h : w.heap[g]? = some (.cells #[z0, z1, z2, z3, z4, z5] 45)) : Bbk w g z0 z1 z2 z3 z4 z5 := h
theorem bbk_fz {w : World} {g : Nat} {z0 z1 z2 z3 z4 z5 : Value} (h : Bbk w g z0 z1 z2 z3 z4 z5) (j : Nat) : w.frozen? ⟨g, j, none⟩ = false := frozen_of_row w g j _ _ h
theorem bst6 {B : Nat} {w w' : World} (h : Below B w w') {g : Nat} (hg : B ≤ g) (x0 x1 x2 x3 x4 x5 : Value) : Below B w ((((((w'.setCell ⟨g, 0, none⟩ x0).setCell ⟨g, 1, none⟩ x1).setCell ⟨g, 2, none⟩ x2).setCell ⟨g, 3, none⟩ x3).setCell ⟨g, 4, none⟩ x4).setCell ⟨g, 5, none⟩ x5) :=
  (((((h.setCell (p := ⟨g, 0, none⟩) hg x0).setCell (p := ⟨g, 1, none⟩) hg x1).setCell (p := ⟨g, 2, none⟩) hg x2).setCell (p := ⟨g, 3, none⟩) hg x3).setCell (p := ⟨g, 4, none⟩) hg x4).setCell (p := ⟨g, 5, none⟩) hg x5
set_option maxRecDepth 100000 in
set_option maxHeartbeats 40000000 in
theorem bucketApart_walk (S : List Op1) (a : Option Addr) (cap : Nat) (o : Op1) (ma : Option Addr) (mc : Nat) (W : World) (hS : OIn W a S) (hl : S.length ≤ 1759218604390) (hs : Sl W ma mc o.l) (hz : o.l.length ≤ 4398046510976) (hpz : Pz o.l) :
    Calls Tryz.prog 4 #[.slice a S.length cap, .agg #[.int .i64 o.kind, str o.key, str o.data, .slice ma o.l.length mc, .int .i64 o.seq, .int .i64 o.most]] W fun e W' => e = .returned (.bool true) ∧ Below W.heap.size W W' := by
  have b0 := (Below.refl W.heap.size W).alloc (Nat.le_refl _) (.cells #[.int .i64 o.kind, str o.key, str o.data, .slice ma o.l.length mc, .int .i64 o.seq, .int .i64 o.most] 34)
  have zo := Bo.new W (.int .i64 o.kind) (str o.key) (str o.data) (.slice ma o.l.length mc) (.int .i64 o.seq) (.int .i64 o.most)
  have HS := Hid.mk (hS.later b0)
  have Hs := Hid.mk (hs.later b0)
  have Hz := Hid.mk hz
  have Hpz := Hid.mk hpz
  clear hS hs hz hpz
  go_enter Tryz.func4, Tryz.ntmps4
  go_wp2_with fail
  generalize hW0 : W.alloc (.cells #[.int .i64 o.kind, str o.key, str o.data, .slice ma o.l.length mc, .int .i64 o.seq, .int .i64 o.most] 34) = W0 at *
  clear hW0
  obtain ⟨g1, hg1⟩ : ∃ g, g = W.heap.size := ⟨_, rfl⟩
  rw [← hg1] at zo ⊢
  have HB : Hid (Below W.heap.size W W0) := ⟨b0⟩
  have Hg1 := Hid.mk hg1
  clear hg1 b0
  with_reducible refine Calls.mono (fixed_any _) ?_
  rintro e w1 ⟨rfl, b1⟩
  dsimp only
  go_wp2_with fail
  with_reducible refine Calls.mono (made_any S w1 a _ cap rfl (HS.out.later b1) (by omega)) ?_
  rintro e w2 ⟨next, L, v, rfl, hR, hC, b2⟩
  obtain ⟨la, lc, rfl, hLi⟩ := hR.li hC
  dsimp only
  have bx := (Below.refl w2.heap.size w2).alloc (Nat.le_refl _) (.cells #[.int .i64 next, .slice la L.length lc] 24)
  have zb := Bq.new w2 (.int .i64 next) (.slice la L.length lc)
  have hLi3 := hLi.later bx
  have b3 := below_seq (below_seq b1 b2) bx
  have zo3 := zo.later b3
  have Hs3 := Hid.mk (Hs.out.later b3)
  have HB3 := Hid.mk (HB.out.trans (b3.mono HB.out.size))
  have HC := Hid.mk (hC.later bx)
  have HG : Hid (g1 < w2.heap.size) := ⟨Nat.lt_of_lt_of_le (lt_of_block zo) (Nat.le_trans b1.size b2.size)⟩
  obtain ⟨p0, p1, _⟩ := zb.cells
  clear b1 b2 bx hLi hC HS hl HB Hs zo b3
  have bm := (Below.refl (w2.alloc (.cells #[.int .i64 next, .slice la L.length lc] 24)).heap.size _).alloc (Nat.le_refl _) (.cells #[.string ⟨#[109, 97, 114, 107]⟩, .int .i64 0, .bool false, .string ⟨#[]⟩, .slice none 0 0] 39)
  go_upto_region 6 with fail
  have zb4 := zb.later bm
  have zm4 := Bv.new (w2.alloc (.cells #[.int .i64 next, .slice la L.length lc] 24)) (.string ⟨#[109, 97, 114, 107]⟩) (.int .i64 0) (.bool false) (.string ⟨#[]⟩) (.slice none 0 0)
  rw [World.size_alloc] at zm4
  have Hs4 := Hid.mk (Hs3.out.later bm)
  have zo4 := Hid.mk (zo3.later bm)
  have HB4 := Hid.mk (HB3.out.trans (bm.mono HB3.out.size))
  obtain ⟨R, fo0, hRv, hRz⟩ := HC.out.later bm
  have HF := Hid.mk fo0
  have HRv := Hid.mk hRv
  have HR := Hid.mk hR
  have hLl := Hid.mk hLi3.l
  have hLz := Hid.mk hLi3.z
  have zb4' := Hid.mk zb4
  have zm4' := Hid.mk zm4
  clear fo0 hRv hRz hR hLi3 zb zo3 Hs3 HB3 HC p0 p1 zb4 zm4
  generalize (w2.alloc (.cells #[.int .i64 next, .slice la L.length lc] 24)).alloc (.cells #[.string ⟨#[109, 97, 114, 107]⟩, .int .i64 0, .bool false, .string ⟨#[]⟩, .slice none 0 0] 39) = w4 at *
  generalize w2.heap.size = gb at *
  clear bm
  go_cut [] from 33 (fun wx => ∃ gr cr, Hid (KBa W wx g1 gb next L gr cr o ma mc))
  case first =>
    have hbl : Hid (gb < w4.heap.size ∧ gb + 1 < w4.heap.size) := ⟨zb4'.out.lt, zm4'.out.lt⟩
    have HZ : Hid (∀ w', Below w4.heap.size w4 w' → w'.cell? ⟨gb, 1, none⟩ = some (.slice la L.length lc)) := ⟨fun w' hb => ((zb4'.out.later hb).cells).2.1⟩
    have HM : Hid (∀ w', Below w4.heap.size w4 w' → w'.cell? ⟨gb + 1, 0, none⟩ = some (.string ⟨#[109, 97, 114, 107]⟩) ∧ w'.cell? ⟨gb + 1, 1, none⟩ = some (.int .i64 0) ∧ w'.cell? ⟨gb + 1, 2, none⟩ = some (.bool false) ∧ w'.cell? ⟨gb + 1, 3, none⟩ = some (.string ⟨#[]⟩) ∧ w'.cell? ⟨gb + 1, 4, none⟩ = some (.slice none 0 0)) := ⟨fun w' hb => by obtain ⟨t0, t1, t2, t3, t4, _⟩ := (zm4'.out.later hb).cells; exact ⟨t0, t1, t2, t3, t4⟩⟩
    have k0 : Hid (Below w4.heap.size w4 w4.drew) := ⟨(Below.refl _ _).drew⟩
    have k1 : Hid (∀ o, Below w4.heap.size w4 (w4.alloc o).drew) := ⟨fun o => ((Below.refl _ _).alloc (Nat.le_refl _) o).drew⟩
    have k2 : Hid (∀ o o', Below w4.heap.size w4 ((w4.alloc o).alloc o').drew) := ⟨fun o o' => (((Below.refl _ _).alloc (Nat.le_refl _) o).alloc (by simp) o').drew⟩
    have c0 := HZ.out _ k0.out
    have c1 := fun o => HZ.out _ (k1.out o)
    have c2 := fun o o' => HZ.out _ (k2.out o o')
    have x0 := (HM.out _ (k0.out)).1
    have x1 := (HM.out _ (k0.out)).2.1
    have x2 := (HM.out _ (k0.out)).2.2.1
    have x3 := (HM.out _ (k0.out)).2.2.2.1
    have x4 := (HM.out _ (k0.out)).2.2.2.2
    have y0 := fun o => (HM.out _ (k1.out o)).1
    have y1 := fun o => (HM.out _ (k1.out o)).2.1
    have y2 := fun o => (HM.out _ (k1.out o)).2.2.1
    have y3 := fun o => (HM.out _ (k1.out o)).2.2.2.1
    have y4 := fun o => (HM.out _ (k1.out o)).2.2.2.2
    have z0 := fun o o' => (HM.out _ (k2.out o o')).1
    have z1 := fun o o' => (HM.out _ (k2.out o o')).2.1
    have z2 := fun o o' => (HM.out _ (k2.out o o')).2.2.1
    have z3 := fun o o' => (HM.out _ (k2.out o o')).2.2.2.1
    have z4 := fun o o' => (HM.out _ (k2.out o o')).2.2.2.2
    have HD : Hid (∀ w', Below w4.heap.size w4 w' → w'.cell? ⟨gb, 1, none⟩ = some (.slice la L.length lc) ∧ w'.frozen? ⟨gb, 1, none⟩ = false) := ⟨fun w' hb => ⟨((zb4'.out.later hb).cells).2.1, ((zb4'.out.later hb).cells).2.2 1⟩⟩
    have r1 : ∀ gr cr w, L.length + 1 ≤ cr → cr ≤ 9223372036854775807 → (slV (.slice (some ⟨gr, 0, none⟩) (L.length + 1) cr) none (some (.int .i64 (L.length : Int))) none).run Tryz.prog w = .ok (.slice (some ⟨gr, 0, none⟩) L.length cr) w := fun gr cr w h1 h2 => run_slV _ _ _ _ (by omega) h2 (fun q => by cases q) w
    have HR1 := Hid.mk r1
    clear r1
    go_region_law (first
      | ((with_reducible (refine at_sta rfl ?_)); refine step_ros (base := w4.heap.size) (v := v5) (R := R) (R2 := [markV]) rfl _ _ rfl rfl rfl (by first | exact ro5 | exact ro5.later ((Below.refl _ _).alloc (Nat.le_refl _) _)) (ro_one markV (by first | exact heap_alloc_new w5 (.cells (rcs markV).toArray 39) | exact (fr5 _ (by first | (simp; done) | (simp; omega)) (by first | (simp [Value.ownBlock]; done) | (simp [Value.ownBlock]; omega))).trans (heap2 w4 (.cells #[] 39) (.cells (rcs markV).toArray 39)) | exact (fr5 _ (by first | (simp; done) | (simp; omega)) (by first | (simp [Value.ownBlock]; done) | (simp [Value.ownBlock]; omega))).trans ((heap_alloc_old (w4.alloc (.cells (rcs markV).toArray 39)) (.cells #[] 39) (by first | (simp; done) | (simp; omega))).trans (heap_alloc_new w4 (.cells (rcs markV).toArray 39))))) (by have := hLl.out; have := congrArg List.length HRv.out; simp at this; simp; omega) ?_; intro v6 w6 ro6 sz6 bl6 fr6; have hb6 : Below w4.heap.size w4 w6 := (by first | exact hb5.trans bl6 | exact (hb5.alloc hb5.size _).trans bl6); obtain ⟨gr, cr, e6, li6, mk6, gl6, cp6, mx6, ge6⟩ := ro_li ro6 HF.out HRv.out hb6 hLl.out hLz.out; subst e6; have rs := HR1.out gr cr w6 cp6 mx6; have st1 := (HD.out _ hb6).1; have st2 := (HD.out _ hb6).2)
      | ((with_reducible (refine at_sta rfl ?_)); refine step_ros (base := w4.heap.size) (v := .slice (some ⟨w4.heap.size, 0, none⟩) 0 0) rfl _ _ rfl rfl rfl (ro_empty (by first | exact heap_alloc_new w4 (.cells #[] 39) | exact heap2 w4 (.cells (rcs markV).toArray 39) (.cells #[] 39) | exact (heap_alloc_old (w4.alloc (.cells #[] 39)) (.cells (rcs markV).toArray 39) (by first | (simp; done) | (simp; omega))).trans (heap_alloc_new w4 (.cells #[] 39))) (by first | (simp; done) | (simp; omega)) (by first | (simp; done) | (simp; omega))) (HF.out.ro.later (by first | exact k1.out _ | exact k2.out _ _)) (by have := hLl.out; have := congrArg List.length HRv.out; simp at this; simp; omega) ?_; intro v5 w5 ro5 sz5 bl5 fr5; have hb5 : Below w4.heap.size w4 w5 := (by first | exact (k1.out _).trans bl5 | exact (k2.out _ _).trans bl5); have u0 := (HM.out _ hb5).1; have u1 := (HM.out _ hb5).2.1; have u2 := (HM.out _ hb5).2.2.1; have u3 := (HM.out _ hb5).2.2.2.1; have u4 := (HM.out _ hb5).2.2.2.2; try (first | have hMo : Ro 0 w5 (.slice (some ⟨w4.heap.size + 1, 0, none⟩) 1 1) [markV] := ro_one markV ((fr5 _ (by first | (simp; done) | (simp; omega)) (by first | (simp [Value.ownBlock]; done) | (simp [Value.ownBlock]; omega))).trans (heap2 w4 (.cells #[] 39) (.cells (rcs markV).toArray 39))) | have hMo : Ro 0 w5 (.slice (some ⟨w4.heap.size, 0, none⟩) 1 1) [markV] := ro_one markV ((fr5 _ (by first | (simp; done) | (simp; omega)) (by first | (simp [Value.ownBlock]; done) | (simp [Value.ownBlock]; omega))).trans ((heap_alloc_old (w4.alloc (.cells (rcs markV).toArray 39)) (.cells #[] 39) (by first | (simp; done) | (simp; omega))).trans (heap_alloc_new w4 (.cells (rcs markV).toArray 39)))); obtain ⟨v6, w6, hr6, ro6, sz6, bl6, fr6⟩ := run_ros2 22 (R := R) ro5 hMo (by have := hLl.out; have := congrArg List.length HRv.out; simp at this; simp; omega); have hb6 : Below w4.heap.size w4 w6 := hb5.trans bl6; obtain ⟨gr, cr, e6, li6, mk6, gl6, cp6, mx6, ge6⟩ := ro_li ro6 HF.out HRv.out hb6 hLl.out hLz.out; subst e6; have rs := HR1.out gr cr w6 cp6 mx6; have st1 := (HD.out _ hb6).1; have st2 := (HD.out _ hb6).2))
      | ((with_reducible (refine at_sta rfl ?_)); refine step_ros (base := w4.heap.size) (v := .slice (some ⟨w4.heap.size + 1, 0, none⟩) 0 0) rfl _ _ rfl rfl rfl (ro_empty (by first | exact heap_alloc_new w4 (.cells #[] 39) | exact heap2 w4 (.cells (rcs markV).toArray 39) (.cells #[] 39) | exact (heap_alloc_old (w4.alloc (.cells #[] 39)) (.cells (rcs markV).toArray 39) (by first | (simp; done) | (simp; omega))).trans (heap_alloc_new w4 (.cells #[] 39))) (by first | (simp; done) | (simp; omega)) (by first | (simp; done) | (simp; omega))) (HF.out.ro.later (by first | exact k1.out _ | exact k2.out _ _)) (by have := hLl.out; have := congrArg List.length HRv.out; simp at this; simp; omega) ?_; intro v5 w5 ro5 sz5 bl5 fr5; have hb5 : Below w4.heap.size w4 w5 := (by first | exact (k1.out _).trans bl5 | exact (k2.out _ _).trans bl5); have u0 := (HM.out _ hb5).1; have u1 := (HM.out _ hb5).2.1; have u2 := (HM.out _ hb5).2.2.1; have u3 := (HM.out _ hb5).2.2.2.1; have u4 := (HM.out _ hb5).2.2.2.2; try (first | have hMo : Ro 0 w5 (.slice (some ⟨w4.heap.size + 1, 0, none⟩) 1 1) [markV] := ro_one markV ((fr5 _ (by first | (simp; done) | (simp; omega)) (by first | (simp [Value.ownBlock]; done) | (simp [Value.ownBlock]; omega))).trans (heap2 w4 (.cells #[] 39) (.cells (rcs markV).toArray 39))) | have hMo : Ro 0 w5 (.slice (some ⟨w4.heap.size, 0, none⟩) 1 1) [markV] := ro_one markV ((fr5 _ (by first | (simp; done) | (simp; omega)) (by first | (simp [Value.ownBlock]; done) | (simp [Value.ownBlock]; omega))).trans ((heap_alloc_old (w4.alloc (.cells (rcs markV).toArray 39)) (.cells #[] 39) (by first | (simp; done) | (simp; omega))).trans (heap_alloc_new w4 (.cells (rcs markV).toArray 39)))); obtain ⟨v6, w6, hr6, ro6, sz6, bl6, fr6⟩ := run_ros2 22 (R := R) ro5 hMo (by have := hLl.out; have := congrArg List.length HRv.out; simp at this; simp; omega); have hb6 : Below w4.heap.size w4 w6 := hb5.trans bl6; obtain ⟨gr, cr, e6, li6, mk6, gl6, cp6, mx6, ge6⟩ := ro_li ro6 HF.out HRv.out hb6 hLl.out hLz.out; subst e6; have rs := HR1.out gr cr w6 cp6 mx6; have st1 := (HD.out _ hb6).1; have st2 := (HD.out _ hb6).2)))
    all_goals (have HK : Hid (KBa W (w6.setCell ⟨gb, 1, none⟩ (.slice (some ⟨gr, 0, none⟩) L.length cr)) g1 gb next L gr cr o ma mc) := ⟨kba_of (HB4.out.trans (hb6.mono HB4.out.size)) (zo4.out.later hb6) (zb4'.out.later hb6) li6 mk6 gl6 cp6 mx6 (Hs4.out.later hb6) (by rw [← Hg1.out]; exact Nat.le_of_lt HG.out) HG.out (fun q => Nat.lt_irrefl _ (Nat.lt_of_lt_of_le hbl.out.1 (by rw [← q]; exact ge6)))⟩)
    all_goals (clear rs st1 st2 li6 mk6 gl6 cp6 mx6 ge6 hb6 ro6 ro5 bl6 bl5 fr5 fr6 hb5)
    all_goals (go_wp2_with fail)
    all_goals go_meet
    all_goals exact ⟨_, _, HK⟩
  obtain ⟨gr, cr, HK⟩ := hcut
  clear HB4 zo4 zb4' zm4' HF HRv hLl hLz Hs4
  obtain ⟨q0, q1, q2, q3, q4, q5⟩ := HK.out.zo.cells
  have be := (Below.refl wc.heap.size wc).alloc (Nat.le_refl _) (.cells #[] 41)
  obtain ⟨r0, r1, r2, r3, r4, r5⟩ := (HK.out.zo.later be).cells
  have oe := Ow.empty (base := wc.heap.size) wc (Nat.le_refl _)
  have HS8 := Hid.mk (HK.out.s.later be)
  go_upto_region 9 with (first
    | (refine app_sliceB rfl _ _ rfl o.l oe HS8.out rfl (by have := Hz.out; simp; omega) rfl rfl ?_; intro v7 w7 o7 b7)
    | (refine app_oneB rfl _ _ rfl mk rfl o7 rfl (by have := Hz.out; simp; omega) rfl rfl ?_; intro v8 w8 o8 b8; obtain ⟨ma8, mc8, e8, s8⟩ := o8.sl; subst e8; rw [List.nil_append] at s8 o8; have hr8 := fun w => run_slP ma8 (o.l.length + 1) mc8 o.l.length (by have := s8.le; simp at this; omega) s8.max s8.nil w))
  have hbw8 : Hid (Below wc.heap.size wc w8) := ⟨(be.trans b7).trans b8⟩
  have HK8 := Hid.mk (HK.out.later hbw8.out)
  have hlen8 : (o.l ++ [mk]).length = o.l.length + 1 := by simp
  obtain ⟨gme, mcx, e9, hgme, hc9, hf9⟩ := own_row o8.own (by rw [pcells_length, hlen8]; omega)
  obtain ⟨rfl, -, rfl⟩ := sl_inj e9
  have HO8 : Hid (w8.ownsRow wc.heap.size 41 2 (.slice (some ⟨gme, 0, none⟩) (o.l.length + 1) mc8) (o.l.length + 1) (pcells (o.l ++ [mk]))) := ⟨by have := o8.own; rw [hlen8] at this; exact this⟩
  have Hgme : Hid (wc.heap.size ≤ gme ∧ gme < w8.heap.size) := ⟨(HO8.out.lt gme rfl).1, hgme⟩
  clear o7 o8 s8 hr8 e9 hc9 hf9 hlen8 be b7 b8 oe HS8 hgme q0 q1 q2 q3 q4 q5 r0 r1 r2 r3 r4 r5
  obtain ⟨y0, y1, _⟩ := HK8.out.zb.cells
  go_wp2_with fail
  clear y0 y1
  with_reducible refine Calls.mono (qCopy_any L next w8 _ _ _ rfl HK8.out.li.s HK8.out.li.l HK8.out.li.z) ?_
  rintro e w9 ⟨wv, rfl, hCw, b9⟩
  obtain ⟨RW, fow, hRWv, hRWz⟩ := hCw
  have hRL : RW.length = L.length := by rw [← hRWv, List.length_map]
  obtain ⟨wa, wcp, ew⟩ := fo_sl fow
  rw [hRL] at ew
  subst ew
  clear hRL
  dsimp only
  have hst0 : KSt wc gme w8.heap.size w9.heap.size (w9.heap.size + 1) (.slice wa L.length wcp) RW := ⟨fun g hg => ⟨(fow.tc hg).1, Nat.lt_succ_of_lt (fow.tc hg).2⟩, Hgme.out.1, Hgme.out.2, b9.size, Nat.lt_succ_self _⟩
  have HSt := Hid.mk hst0
  have bw := (Below.refl w9.heap.size w9).alloc (Nat.le_refl _) (.cells #[.int .i64 next, .slice wa L.length wcp] 24)
  have bx := bw.alloc bw.size (.cells #[.slice none 0 0, .slice none 0 0, .slice none 0 0, .slice none 0 0, .slice none 0 0, .slice none 0 0] 45)
  have bxx := (Below.refl (w9.alloc (.cells #[.int .i64 next, .slice wa L.length wcp] 24)).heap.size _).alloc (Nat.le_refl _) (.cells #[.slice none 0 0, .slice none 0 0, .slice none 0 0, .slice none 0 0, .slice none 0 0, .slice none 0 0] 45)
  have hbk : Bbk ((w9.alloc (.cells #[.int .i64 next, .slice wa L.length wcp] 24)).alloc (.cells #[.slice none 0 0, .slice none 0 0, .slice none 0 0, .slice none 0 0, .slice none 0 0, .slice none 0 0] 45)) (w9.heap.size + 1) (.slice none 0 0) (.slice none 0 0) (.slice none 0 0) (.slice none 0 0) (.slice none 0 0) (.slice none 0 0) := heap2 w9 _ _
  have hK8 := HK8.out
  have hA0 : LA wc ((w9.alloc (.cells #[.int .i64 next, .slice wa L.length wcp] 24)).alloc (.cells #[.slice none 0 0, .slice none 0 0, .slice none 0 0, .slice none 0 0, .slice none 0 0, .slice none 0 0] 45)) gme w8.heap.size w9.heap.size (w9.heap.size + 1) o.l.length mc8 next (.slice wa L.length wcp) RW 0 (o.l ++ [mk]) :=
    ⟨_, none, 0, none, 0, none, 0, none, 0, none, 0, none, 0, [], [], [], [], [], [], ⟨hbk, by have h1 := HK8.out; exact (hbw8.out.trans ((b9.mono hbw8.out.size))).trans (bx.mono (Nat.le_trans hbw8.out.size b9.size)), fow.later bx, (Bq.new w9 _ _).later bxx, by simp, own_later (own_base (own_later HO8.out b9)) bx⟩, book_nil _, Alike.nil, rfl, rfl, rfl⟩
  have HA0 := Hid.mk hA0
  have HRWv := Hid.mk hRWv
  clear hst0 bw bx bxx hbk hK8 hA0 fow hRWv hRWz b9 HK8 hbw8 HO8 Hgme
  go_wp2_with fail
  generalize ((w9.alloc (.cells #[.int .i64 next, .slice wa L.length wcp] 24)).alloc (.cells #[.slice none 0 0, .slice none 0 0, .slice none 0 0, .slice none 0 0, .slice none 0 0, .slice none 0 0] 45)) = wA at *
  generalize w8.heap.size = u8 at *
  generalize w9.heap.size = gw at *
  go_loopw [12] (fun o' wr => ∃ i : Nat, i ≤ 2 ∧ o' = .int .i64 (i : Int) ∧ Hid (LA wc wr gme u8 gw (gw + 1) o.l.length mc8 next (.slice wa L.length wcp) RW i (o.l ++ [mk]))) (fun o' _ => 2 - (intOf o').toNat)
  case atStart => exact ⟨0, Nat.zero_le _, rfl, HA0⟩
  case round =>
    clear HA0
    obtain ⟨i, hi, rfl, HI⟩ := hrel
    by_cases hlt : i < 2
    · have d1 : decide ((i : Int) < 2) = true := decide_eq_true (Int.ofNat_lt.2 hlt)
      have hw1 := wrq (n := i) (by omega)
      obtain ⟨w0, a0, c0, a1, c1, a2, c2, a3, c3, a4, c4, a5, c5, B, Wl, X, Y, M, N, K, E, hA, hB3, hX2, hM2⟩ := HI.out.ex
      have lW : Wl.length = B.length := by have := congrArg List.length hA.b; simpa using this.symm
      have lY : Y.length = X.length := by have := congrArg List.length hA.x; simpa using this.symm
      have lN : N.length = M.length := by have := congrArg List.length hA.m; simpa using this.symm
      have hlen : B.length ≤ 100 ∧ Wl.length ≤ 100 ∧ X.length ≤ 100 ∧ Y.length ≤ 100 ∧ M.length ≤ 100 ∧ N.length ≤ 100 := by omega
      have kb0 := HK.out.later K.b
      have kbr := kb0.later E.bel
      obtain ⟨sm, _, _, _, _⟩ := ka_meta K rfl
      have hask := Hid.mk (asked_any next L HR.out o Hz.out Hpz.out B Wl X Y M N hlen w0 wr ma mc (some ⟨gr, 0, none⟩) cr (some ⟨gme, 0, none⟩) mc8 a0 c0 a1 c1 a2 c2 a3 c3 a4 c4 a5 c5 kb0.li kb0.s sm E)
      obtain ⟨q0, q1, q2, q3, q4, q5⟩ := kbr.zo.cells
      obtain ⟨y0, y1, _⟩ := kbr.zb.cells
      obtain ⟨x0, x1, x2, x3, x4, x5⟩ := (K.bx.later E.bel).cells
      have HKA := Hid.mk K
      have HE := Hid.mk E
      have HAl := Hid.mk hA
      have HB3 : Hid (B.length = 3 * i ∧ X.length = 2 * i ∧ M.length = 2 * i) := ⟨hB3, hX2, hM2⟩
      clear lW lY lN hlen kb0 kbr sm K E hA hB3 hX2 hM2 HI
      go_wp2_with fail
      clear q0 q1 q2 q3 q4 q5 y0 y1 x0 x1 x2 x3 x4 x5
      with_reducible refine Calls.mono hask.out ?_
      rintro e w' ⟨v0, v1, v2, v3, v4, v5, B', Wl', X', Y', M', N', rfl, E', e1, e2, e3, e4, e5, e6, e7, e8, e9, e10⟩
      obtain ⟨b0, d0, rfl⟩ := own_form (E'.at' (1, 0) _ rfl)
      obtain ⟨b1, d1', rfl⟩ := own_form (E'.at' (1, 1) _ rfl)
      obtain ⟨b2, d2, rfl⟩ := own_form (E'.at' (1, 2) _ rfl)
      obtain ⟨b3, d3, rfl⟩ := own_form (E'.at' (1, 3) _ rfl)
      obtain ⟨b4, d4, rfl⟩ := own_form (E'.at' (1, 4) _ rfl)
      obtain ⟨b5, d5, rfl⟩ := own_form (E'.at' (1, 5) _ rfl)
      dsimp only
      have hbx := HKA.out.bx.later E'.bel
      obtain ⟨x0, x1, x2, x3, x4, x5⟩ := hbx.cells
      have hfz := fun j => frozen_of_row w' (gw + 1) j _ _ hbx
      have f0 := hfz 0
      have f1 := hfz 1
      have f2 := hfz 2
      have f3 := hfz 3
      have f4 := hfz 4
      have f5 := hfz 5
      have HSG : Hid (LA wc ((((((w'.setCell ⟨gw + 1, 0, none⟩ (.slice b0 (B ++ B').length d0)).setCell ⟨gw + 1, 1, none⟩ (.slice b1 (Wl ++ Wl').length d1')).setCell ⟨gw + 1, 2, none⟩ (.slice b2 (X ++ X').length d2)).setCell ⟨gw + 1, 3, none⟩ (.slice b3 (Y ++ Y').length d3)).setCell ⟨gw + 1, 4, none⟩ (.slice b4 (M ++ M').length d4)).setCell ⟨gw + 1, 5, none⟩ (.slice b5 (N ++ N').length d5)) gme u8 gw (gw + 1) o.l.length mc8 next (.slice wa L.length wcp) RW (i + 1) (o.l ++ [mk])) :=
        ⟨⟨_, b0, d0, b1, d1', b2, d2, b3, d3, b4, d4, b5, d5, _, _, _, _, _, _, HKA.out.book HSt.out _ _ _ _ _ _, E'.low6 (gw + 1) (lt_of_block HKA.out.bx) _ _ _ _ _ _, HAl.out.append ⟨e1, e3, e4, e5, e7, e8, e10⟩, by have := HB3.out.1; simp; omega, by have := HB3.out.2.1; simp; omega, by have := HB3.out.2.2; simp; omega⟩⟩
      clear hbx hfz hask HKA HE HAl HB3 E' e1 e2 e3 e4 e5 e6 e7 e8 e9 e10
      generalize (B ++ B').length = n0 at *
      generalize (Wl ++ Wl').length = n1 at *
      generalize (X ++ X').length = n2 at *
      generalize (Y ++ Y').length = n3 at *
      generalize (M ++ M').length = n4 at *
      generalize (N ++ N').length = n5 at *
      go_wp2_with fail
      exact ⟨⟨i + 1, hlt, by first | (rw [hw1]; done) | rfl | go_num, HSG⟩, by first | (rw [hw1]; exact lss_meas hlt) | exact meas1 hlt⟩
    · obtain rfl : i = 2 := by omega
      have d1 : decide (((2 : Nat) : Int) < 2) = false := decide_eq_false (by omega)
      obtain ⟨w0, a0, c0, a1, c1, a2, c2, a3, c3, a4, c4, a5, c5, B, Wl, X, Y, M, N, K, E, hA, hB3, hX2, hM2⟩ := HI.out.ex
      have kb0 := HK.out.later K.b
      have kbr := Hid.mk (kb0.later E.bel)
      obtain ⟨wa2, wc2, ew2, liw⟩ := K.li HR.out HRWv.out
      obtain ⟨rfl, -, rfl⟩ := sl_inj ew2
      have HLw := Hid.mk (liw.later E.bel)
      have HZw := Hid.mk (K.zw.later E.bel)
      obtain ⟨sm, hgm, cm, hm1, hm2⟩ := ka_meta K rfl
      have HSm := Hid.mk (sm.later E.bel)
      have hcm := (E.bel.cell (p := ⟨gme, _, none⟩) hgm).trans cm
      have hgm2 := Nat.lt_of_lt_of_le hgm E.bel.size
      have Hhl := Hid.mk (held_env E (K.bx.later E.bel) hA (by omega))
      have HHm : Hid (o.l.length + 1 ≤ mc8 ∧ mc8 ≤ 9223372036854775807) := ⟨hm1, hm2⟩
      clear K E hA hB3 hX2 hM2 kb0 ew2 liw sm cm hm1 hm2 hgm
      go_wp2_with fail
      with_reducible refine Calls.mono Hhl.out ?_
      rintro e w11 ⟨rfl, b11⟩
      dsimp only
      clear Hhl
      have kb11 := Hid.mk (kbr.out.later b11)
      obtain ⟨y0, y1, _⟩ := kb11.out.zb.cells
      obtain ⟨z0, z1, _⟩ := (HZw.out.later b11).cells
      go_wp2_with fail
      clear y0 y1 z0 z1
      with_reducible refine Calls.mono (qSame_eq next L w11 (some ⟨gr, 0, none⟩) cr wa wcp kb11.out.li (HLw.out.later b11) (Nat.le_trans HR.out.len (by decide))) ?_
      rintro e w12 ⟨rfl, b12⟩
      dsimp only
      have kb12 := Hid.mk (kb11.out.later b12)
      have b1x := below_seq b11 b12
      obtain ⟨y0, y1, _⟩ := kb12.out.zb.cells
      obtain ⟨q0, q1, q2, q3, q4, q5⟩ := kb12.out.zo.cells
      have mkc := kb12.out.mk'
      have hrV : ∀ w, (slV (.slice (some ⟨gr, 0, none⟩) L.length cr) none (some (.int .i64 ((L.length : Int) + 1))) none).run Tryz.prog w = .ok (.slice (some ⟨gr, 0, none⟩) (L.length + 1) cr) w := fun w => run_slV (some ⟨gr, 0, none⟩) L.length cr (L.length + 1) kb12.out.cp kb12.out.mx (fun q => by cases q) w
      have hwL : wrap64 ((L.length : Int) + 1) = (L.length : Int) + 1 := by have := HR.out.len; unfold wrap64; omega
      have kL : (L.length : Int) < ((L.length + 1 : Nat) : Int) := by omega
      have kL' : (L.length : Int) < (L.length : Int) + 1 := by omega
      go_wp2_with fail
      clear y0 y1 q0 q1 q2 q3 q4 q5 mkc hrV hwL kL kL'
      have hsq := qSameMeta_any o.l o.l w12 (some ⟨gme, 0, none⟩) _ mc8 rfl (HSm.out.later b1x).at' (by have := Hz.out; omega) ma _ mc rfl kb12.out.s.at' (by have := Hz.out; omega)
      rw [smP_true rfl] at hsq
      with_reducible refine Calls.mono hsq ?_
      rintro e w13 ⟨rfl, b13⟩
      dsimp only
      clear hsq
      have b1y := below_seq b1x b13
      have mkc := (b1y.cell (p := ⟨gme, _, none⟩) hgm2).trans hcm
      have hrP : ∀ w, (slP (.slice (some ⟨gme, 0, none⟩) o.l.length mc8) none (some (.int .i64 ((o.l.length : Int) + 1))) none).run Tryz.prog w = .ok (.slice (some ⟨gme, 0, none⟩) (o.l.length + 1) mc8) w := fun w => run_slP (some ⟨gme, 0, none⟩) o.l.length mc8 (o.l.length + 1) HHm.out.1 HHm.out.2 (fun q => by cases q) w
      have hwL : wrap64 ((o.l.length : Int) + 1) = (o.l.length : Int) + 1 := by have := Hz.out; unfold wrap64; omega
      have kL : (o.l.length : Int) < ((o.l.length + 1 : Nat) : Int) := by omega
      have kL' : (o.l.length : Int) < (o.l.length : Int) + 1 := by omega
      dsimp only [mk] at mkc
      have HI3 := Hid.mk (HI.out.later b1y)
      clear HI kbr kb11 kb12 HLw HZw HSm b11 b12 b13 b1x b1y hcm hgm2 HHm
      go_wp2_with fail
      clear mkc hrP hwL kL kL'
      go_loopw [13] (fun o' wr => ∃ (j : Nat) (l' : List En), j ≤ o.l.length ∧ l'.length = o.l.length + 1 ∧ o' = .int .i64 (j : Int) ∧ Hid (LA wc wr gme u8 gw (gw + 1) o.l.length mc8 next (.slice wa L.length wcp) RW 2 l')) (fun o' _ => o.l.length - (intOf o').toNat)
      case atStart => exact ⟨0, _, Nat.zero_le _, by simp, rfl, HI3⟩
      case round =>
        clear HI3
        obtain ⟨j, l', hj, hl', rfl, HI⟩ := hrel
        have Hl' := Hid.mk hl'
        clear hl'
        by_cases hlt : j < o.l.length
        · have d1 : decide ((j : Int) < (o.l.length : Int)) = true := decide_eq_true (Int.ofNat_lt.2 hlt)
          have j2 : (j : Int) < (o.l.length : Int) := Int.ofNat_lt.2 hlt
          have hw1 := wrq (n := j) (Nat.le_trans hj Hz.out)
          obtain ⟨⟨o1, o2, c1, c2⟩, hf, hL⟩ := HI.out.pair HSt.out (j := j) (by rw [Hl'.out]; omega) ⟨[111, 118, 101, 114], []⟩
          have f1 := hf (j * 2)
          have f2 := hf (j * 2 + 1)
          have HSE := Hid.mk hL
          have HL2 : Hid ((l'.set j ⟨[111, 118, 101, 114], []⟩).length = o.l.length + 1) := ⟨by rw [List.length_set]; exact Hl'.out⟩
          clear hf hL HI
          go_wp2_with fail
          clear c1 c2 f1 f2
          exact ⟨⟨j + 1, _, hlt, HL2.out, by first | (rw [hw1]; done) | rfl | go_num, HSE⟩, by first | (rw [hw1]; exact lss_meas hlt) | exact meas1 hlt⟩
        · obtain rfl : j = o.l.length := Nat.le_antisymm hj (Nat.le_of_not_lt hlt)
          have d1 : decide ((o.l.length : Int) < (o.l.length : Int)) = false := decide_eq_false (fun q => Nat.lt_irrefl _ (Int.ofNat_lt.1 q))
          obtain ⟨w0, a0, c0, a1, c1, a2, c2, a3, c3, a4, c4, a5, c5, B, Wl, X, Y, M, N, K, E, hA, hB3, hX2, hM2⟩ := HI.out.ex
          have Hhl := Hid.mk (held_env E (K.bx.later E.bel) hA (by omega))
          have HKA := Hid.mk K
          have HE := Hid.mk E
          have HAl := Hid.mk hA
          have HB3 : Hid (B.length = 6 ∧ X.length = 4 ∧ M.length = 4) := ⟨hB3, hX2, hM2⟩
          clear K E hA hB3 hX2 hM2 HI hj hlt
          go_wp2_with fail
          clear d1
          with_reducible refine Calls.mono Hhl.out ?_
          rintro e w14 ⟨rfl, b14⟩
          dsimp only
          clear Hhl
          go_wp2_with fail
          have hmk := marked_any w0 w14 (gw + 1) ⟨a0, c0, .slice a1 Wl.length c1, a2, c2, .slice a3 Y.length c3, a4, c4, .slice a5 N.length c5, B.length, X.length, M.length⟩ B Wl X Y M N HKA.out.bx (HE.out.below b14) (by have := HB3.out; dsimp only; omega) rfl rfl rfl HAl.out.gb HAl.out.gx HAl.out.gm
          with_reducible refine Calls.mono hmk ?_
          rintro e w15 ⟨rfl, B', X', M', E', lb', hG', hMB, lx', hX', hMX⟩
          dsimp only at lb' lx' hMB hMX ⊢
          clear hmk
          go_wp2_with fail
          have hgr := grown_any w0 w15 (gw + 1) ⟨a0, c0, .slice a1 Wl.length c1, a2, c2, .slice a3 Y.length c3, a4, c4, .slice a5 N.length c5, B.length, X.length, M.length⟩ B' Wl X' Y M' N HKA.out.bx E' (by have := HB3.out; dsimp only; omega) lb' lx' (gm_of lb' hG' hMB) (gy_of lx' hX' hMX)
          with_reducible refine Calls.mono hgr ?_
          rintro e w16 ⟨rfl, b16⟩
          dsimp only
          clear hgr E' lb' hG' hMB lx' hX' hMX b14
          have HKG := Hid.mk ((HK.out.later HKA.out.b).later b16)
          have HFG := Hid.mk (HKA.out.was.later b16)
          have HZG := Hid.mk (HKA.out.zw.later b16)
          clear HKA HE HAl HB3 b16 HK
          go_upto_region 26 with fail
          go_cut [14] from 117 (fun v14 wx => ∃ gy, v14 = .pointer (some ⟨gy, 0, none⟩) ∧ Hid (LF W wx g1 gb next L gr cr o ma mc u8 gw gy (.slice wa L.length wcp) RW))
          case first =>
            have k1 : Hid (∀ o, Below w16.heap.size w16 (w16.alloc o).drew) := ⟨fun o => ((Below.refl _ _).alloc (Nat.le_refl _) o).drew⟩
            have k2 : Hid (∀ o o', Below w16.heap.size w16 ((w16.alloc o).alloc o').drew) := ⟨fun o o' => (((Below.refl _ _).alloc (Nat.le_refl _) o).alloc (by simp) o').drew⟩
            have HS : Hid (∀ w', Below w16.heap.size w16 w' → Below w16.heap.size w16 w' ∧ w'.cell? ⟨gb, 0, none⟩ = some (.int .i64 next) ∧ w'.cell? ⟨gb, 1, none⟩ = some (.slice (some ⟨gr, 0, none⟩) L.length cr) ∧ w'.cell? ⟨g1, 0, none⟩ = some (.int .i64 o.kind) ∧ w'.cell? ⟨g1, 1, none⟩ = some (str o.key) ∧ w'.cell? ⟨g1, 2, none⟩ = some (str o.data) ∧ w'.cell? ⟨g1, 3, none⟩ = some (.slice ma o.l.length mc) ∧ w'.cell? ⟨g1, 4, none⟩ = some (.int .i64 o.seq) ∧ w'.cell? ⟨g1, 5, none⟩ = some (.int .i64 o.most)) := ⟨fun w' h => by
              obtain ⟨t0, t1, _⟩ := (HKG.out.later h).zb.cells
              obtain ⟨u0, u1, u2, u3, u4, u5⟩ := (HKG.out.later h).zo.cells
              exact ⟨h, t0, t1, u0, u1, u2, u3, u4, u5⟩⟩
            go_region_held3 (fun w' => Below w16.heap.size w16 w' ∧ w'.cell? ⟨gb, 0, none⟩ = some (.int .i64 next) ∧ w'.cell? ⟨gb, 1, none⟩ = some (.slice (some ⟨gr, 0, none⟩) L.length cr) ∧ w'.cell? ⟨g1, 0, none⟩ = some (.int .i64 o.kind) ∧ w'.cell? ⟨g1, 1, none⟩ = some (str o.key) ∧ w'.cell? ⟨g1, 2, none⟩ = some (str o.data) ∧ w'.cell? ⟨g1, 3, none⟩ = some (.slice ma o.l.length mc) ∧ w'.cell? ⟨g1, 4, none⟩ = some (.int .i64 o.seq) ∧ w'.cell? ⟨g1, 5, none⟩ = some (.int .i64 o.most)) ((refine HS.out _ ?_; first
              | with_reducible exact (Below.refl _ _).drew
              | with_reducible exact k1.out _
              | with_reducible exact k2.out _ _
              | with_reducible exact hb18
              | with_reducible exact hb17
              | with_reducible exact hb17.alloc hb17.size _
              | with_reducible exact hb18.alloc hb18.size _
              | with_reducible exact bst6 hb18 hgy _ _ _ _ _ _)) (first
              | (go_at_call 14; with_reducible refine Calls.mono (asked_first next L HR.out o Hz.out Hpz.out w17 ma mc (some ⟨gr, 0, none⟩) cr m17 mc17 (HKG.out.later hb17).li (HKG.out.later hb17).s s17) ?_; rintro e w18 ⟨b0, d0, b1, d1, b2, d2, b3, d3, b4, d4, b5, d5, B', Wl', X', Y', M', N', rfl, E18, hAl, l3, l2, l1⟩; have hb18 : Below w16.heap.size w16 w18 := hb17.trans (E18.bel.mono hb17.size); (first | (obtain ⟨n0, n1, n2, n3, n4, n5⟩ := (hbz.later E18.bel).cells; have f0 := bbk_fz (hbz.later E18.bel) 0; have f1 := bbk_fz (hbz.later E18.bel) 1; have f2 := bbk_fz (hbz.later E18.bel) 2; have f3 := bbk_fz (hbz.later E18.bel) 3; have f4 := bbk_fz (hbz.later E18.bel) 4; have f5 := bbk_fz (hbz.later E18.bel) 5) | skip); have HE8 := Hid.mk E18; have HA8 := Hid.mk hAl; have H38 : Hid (B'.length = 3 ∧ X'.length = 2 ∧ M'.length = 2) := ⟨⟨l3, l2, l1⟩⟩; clear E18 hAl l3 l2 l1)
              | (go_at_call 14; with_reducible refine Calls.mono (asked_first next L HR.out o Hz.out Hpz.out (w17.alloc (.cells #[.slice none 0 0, .slice none 0 0, .slice none 0 0, .slice none 0 0, .slice none 0 0, .slice none 0 0] 45)) ma mc (some ⟨gr, 0, none⟩) cr m17 mc17 (HKG.out.later (hb17.alloc hb17.size _)).li (HKG.out.later (hb17.alloc hb17.size _)).s (s17.later ((Below.refl _ _).alloc (Nat.le_refl _) _))) ?_; rintro e w18 ⟨b0, d0, b1, d1, b2, d2, b3, d3, b4, d4, b5, d5, B', Wl', X', Y', M', N', rfl, E18, hAl, l3, l2, l1⟩; have hb18 : Below w16.heap.size w16 w18 := (hb17.alloc hb17.size _).trans (E18.bel.mono (hb17.alloc hb17.size _).size); have hbA : Below w16.heap.size w16 (w17.alloc (.cells #[.slice none 0 0, .slice none 0 0, .slice none 0 0, .slice none 0 0, .slice none 0 0, .slice none 0 0] 45)) := hb17.alloc hb17.size _; have hbzA : Bbk (w17.alloc (.cells #[.slice none 0 0, .slice none 0 0, .slice none 0 0, .slice none 0 0, .slice none 0 0, .slice none 0 0] 45)) w17.heap.size (.slice none 0 0) (.slice none 0 0) (.slice none 0 0) (.slice none 0 0) (.slice none 0 0) (.slice none 0 0) := bbk_of (heap_alloc_new _ _); have hgy : w16.heap.size ≤ w17.heap.size := hb17.size; obtain ⟨n0, n1, n2, n3, n4, n5⟩ := (hbzA.later E18.bel).cells; have f0 := bbk_fz (hbzA.later E18.bel) 0; have f1 := bbk_fz (hbzA.later E18.bel) 1; have f2 := bbk_fz (hbzA.later E18.bel) 2; have f3 := bbk_fz (hbzA.later E18.bel) 3; have f4 := bbk_fz (hbzA.later E18.bel) 4; have f5 := bbk_fz (hbzA.later E18.bel) 5; have HE8 := Hid.mk E18; have HA8 := Hid.mk hAl; have H38 : Hid (B'.length = 3 ∧ X'.length = 2 ∧ M'.length = 2) := ⟨⟨l3, l2, l1⟩⟩; clear E18 hAl l3 l2 l1)
              | (refine step_app2 (base := w16.heap.size) (v := .slice (some ⟨w16.heap.size, 0, none⟩) 0 0) rfl _ _ rfl o.l (ow_empty (by first | exact heap_alloc_new w16 (.cells #[] 41) | exact (heap_alloc_old (w16.alloc (.cells #[] 41)) (.cells #[.slice none 0 0, .slice none 0 0, .slice none 0 0, .slice none 0 0, .slice none 0 0, .slice none 0 0] 45) (by first | (simp; done) | (simp; omega))).trans (heap_alloc_new w16 (.cells #[] 41))) (by first | (simp; done) | (simp; omega)) (by first | (simp; done) | (simp; omega))) ((HKG.out.later (by first | exact k1.out _ | exact k2.out _ _)).s) rfl (by have := Hz.out; simp; omega) rfl rfl ?_; intro v17 w17 o17 b17 fr17; obtain ⟨m17, mc17, e17, s17⟩ := (show Ow w16.heap.size w17 v17 o.l from o17).sl; subst e17; first | (have hb17 : Below w16.heap.size w16 w17 := (k1.out _).trans b17; clear b17) | (have hb17 : Below w16.heap.size w16 w17 := (k2.out _ _).trans b17; have hbz : Bbk w17 (w16.heap.size + 1) (.slice none 0 0) (.slice none 0 0) (.slice none 0 0) (.slice none 0 0) (.slice none 0 0) (.slice none 0 0) := bbk_of ((fr17 _ (by first | (simp; done) | (simp; omega)) (by first | (simp [Value.ownBlock]; done) | (simp [Value.ownBlock]; omega))).trans (heap2 w16 (.cells #[] 41) (.cells #[.slice none 0 0, .slice none 0 0, .slice none 0 0, .slice none 0 0, .slice none 0 0, .slice none 0 0] 45))); have hgy : w16.heap.size ≤ w16.heap.size + 1 := Nat.le_succ _; clear b17))
              | (refine step_app2 (base := w16.heap.size) (v := .slice (some ⟨w16.heap.size + 1, 0, none⟩) 0 0) rfl _ _ rfl o.l (ow_empty (heap2 w16 (.cells #[.slice none 0 0, .slice none 0 0, .slice none 0 0, .slice none 0 0, .slice none 0 0, .slice none 0 0] 45) (.cells #[] 41)) (by first | (simp; done) | (simp; omega)) (by first | (simp; done) | (simp; omega))) ((HKG.out.later (k2.out _ _)).s) rfl (by have := Hz.out; simp; omega) rfl rfl ?_; intro v17 w17 o17 b17 fr17; obtain ⟨m17, mc17, e17, s17⟩ := (show Ow w16.heap.size w17 v17 o.l from o17).sl; subst e17; have hb17 : Below w16.heap.size w16 w17 := (k2.out _ _).trans b17; have hbz : Bbk w17 w16.heap.size (.slice none 0 0) (.slice none 0 0) (.slice none 0 0) (.slice none 0 0) (.slice none 0 0) (.slice none 0 0) := bbk_of ((fr17 _ (by first | (simp; done) | (simp; omega)) (by first | (simp [Value.ownBlock]; done) | (simp [Value.ownBlock]; omega))).trans ((heap_alloc_old (w16.alloc (.cells #[.slice none 0 0, .slice none 0 0, .slice none 0 0, .slice none 0 0, .slice none 0 0, .slice none 0 0] 45)) (.cells #[] 41) (by first | (simp; done) | (simp; omega))).trans (heap_alloc_new w16 (.cells #[.slice none 0 0, .slice none 0 0, .slice none 0 0, .slice none 0 0, .slice none 0 0, .slice none 0 0] 45)))); have hgy : w16.heap.size ≤ w16.heap.size := Nat.le_refl _; clear b17))
            all_goals (go_wp2_with fail)
            all_goals go_meet
            all_goals (first
              | (have q := lf_a HKG.out HFG.out HZG.out hbA hgy hbzA HE8.out HA8.out H38.out.1 H38.out.2.1 H38.out.2.2; unfold st6 at q; with_reducible exact ⟨_, rfl, ⟨q⟩⟩)
              | (have q := lf_a HKG.out HFG.out HZG.out hb17 hgy hbz HE8.out HA8.out H38.out.1 H38.out.2.1 H38.out.2.2; unfold st6 at q; with_reducible exact ⟨_, rfl, ⟨q⟩⟩)
              | (have q := lf_b HKG.out HFG.out HZG.out hb17 HE8.out HA8.out H38.out.1 H38.out.2.1 H38.out.2.2; with_reducible exact ⟨_, rfl, ⟨q⟩⟩))
          obtain ⟨gy, ey, HF⟩ := hcut
          subst ey
          obtain ⟨w0, a0, c0, a1, c1, a2, c2, a3, c3, a4, c4, a5, c5, B, Wl, X, Y, M, N, kb, fo, zw, bb, E, hA, h3, h2, h1⟩ := HF.out.ex
          have Hhl := Hid.mk (held_env E bb hA (by omega))
          have HKc := Hid.mk kb
          have HFc := Hid.mk fo
          have HZc := Hid.mk zw
          clear kb fo zw bb E hA h3 h2 h1 HF
          go_wp2_with fail
          with_reducible refine Calls.mono Hhl.out ?_
          rintro e w19 ⟨rfl, b19⟩
          dsimp only
          clear Hhl
          have kb19 := Hid.mk (HKc.out.later b19)
          obtain ⟨y0, y1, _⟩ := kb19.out.zb.cells
          obtain ⟨z0, z1, _⟩ := (HZc.out.later b19).cells
          go_wp2_with fail
          clear y0 y1 z0 z1
          with_reducible refine Calls.mono (qSame_eq next L w19 (some ⟨gr, 0, none⟩) cr wa wcp kb19.out.li (fo_li (HFc.out.later b19) HR.out HRWv.out) (Nat.le_trans HR.out.len (by decide))) ?_
          rintro e w20 ⟨rfl, b20⟩
          dsimp only
          have kb20 := Hid.mk (kb19.out.later b20)
          obtain ⟨y0, y1, _⟩ := kb20.out.zb.cells
          have mkc := kb20.out.mk'
          have hrV : ∀ w, (slV (.slice (some ⟨gr, 0, none⟩) L.length cr) none (some (.int .i64 ((L.length : Int) + 1))) none).run Tryz.prog w = .ok (.slice (some ⟨gr, 0, none⟩) (L.length + 1) cr) w := fun w => run_slV (some ⟨gr, 0, none⟩) L.length cr (L.length + 1) kb20.out.cp kb20.out.mx (fun q => by cases q) w
          have hwL : wrap64 ((L.length : Int) + 1) = (L.length : Int) + 1 := by have := HR.out.len; unfold wrap64; omega
          have kL : (L.length : Int) < ((L.length + 1 : Nat) : Int) := by omega
          have kL' : (L.length : Int) < (L.length : Int) + 1 := by omega
          go_wp2_with fail
          go_ret
          exact ⟨rfl, kb20.out.b⟩
end Go.Proofs.YtgcdnanfnbdjjaaGreat
