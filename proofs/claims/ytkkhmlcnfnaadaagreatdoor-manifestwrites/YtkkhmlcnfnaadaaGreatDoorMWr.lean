/- ManifestWrites: the walk. -/
import Derived.Test.YtkkhmlcnfnaadaaGreatDoorMWu
import Derived.Deep.CutRange
import Derived.Deep.RegionHeld3
namespace Go.Proofs.YtkkhmlcnfnaadaaGreatDoor
set_option maxRecDepth 100000
set_option linter.unusedVariables false
set_option linter.unusedSimpArgs false
open Go.RowKit
open Go.Proofs.YtkkhmlcnfnaadaaGreatDoorP (TB)
open Go.Proofs.YtkkhmlcnfnaadaaGreatDoorH (hv KIn leaf)
attribute [local go_sem ↓] Go.wp_at_zero Go.wp_at_succ slVwe
theorem zq3 {w w5 : World} (h : Below (w.alloc (.cells #[.int .i64 0, .int .i64 0, .slice none 0 0] 28)).drew.heap.size (w.alloc (.cells #[.int .i64 0, .int .i64 0, .slice none 0 0] 28)).drew w5) : Bm3 w5 w.heap.size 0 0 (.slice none 0 0) := Bm3.later (w := (w.alloc (.cells #[.int .i64 0, .int .i64 0, .slice none 0 0] 28)).drew) (Bm3.new w 0 0 _) h
theorem wset3 {W : World} {r : Nat} {s n : Int} {v : Value} (h : Bm3 W r s n v) (s' n' : Int) (v' : Value) : Bm3 (((W.setCell ⟨r, 0, none⟩ (.int .i64 s')).setCell ⟨r, 1, none⟩ (.int .i64 n')).setCell ⟨r, 2, none⟩ v') r s' n' v' := by
  have e1 : Bm3 (W.setCell ⟨r, 0, none⟩ (.int .i64 s')) r s' n v := by unfold Bm3; rw [heap_setCell_same _ _ _ _ _ _ h]; rfl
  have e2 : Bm3 ((W.setCell ⟨r, 0, none⟩ (.int .i64 s')).setCell ⟨r, 1, none⟩ (.int .i64 n')) r s' n' v := by unfold Bm3; rw [heap_setCell_same _ _ _ _ _ _ e1]; rfl
  unfold Bm3; rw [heap_setCell_same _ _ _ _ _ _ e2]; rfl
theorem fi_it {B : Nat} {w : World} {a : Option Addr} {n c : Nat} {R : List Ri} {l : List It} (hR : R.map (·.1) = l) (h : Fi B w (.slice a n c) R) : IIt w a l := by
  rw [← hR]; exact h.it
theorem fi_oth3 {B : Nat} {w : World} {v : Value} {R : List Ri} (h : Fi B w v R) {g : Nat} (hg : g < B) (x y z : Value) : Fi B (((w.setCell ⟨g, 0, none⟩ x).setCell ⟨g, 1, none⟩ y).setCell ⟨g, 2, none⟩ z) v R := ((h.oth hg _).oth hg _).oth hg _
abbrev mkV : Vs := ⟨[109, 97, 114, 107], -77, false, [], []⟩
set_option maxHeartbeats 16000000 in
theorem writes_walk (m : Ma) (L : List Vs) (next since : Int) (W : World) (qa : Option Addr) (qc : Nat) (ba : Option Addr) (bc : Nat) (hI : IIt W qa m.items) (hz : ∀ x ∈ m.items, x.l.length ≤ 4398046510976) (hp : ∀ x ∈ m.items, ∀ (k : Nat) (e : En), x.l[k]? = some e → e.key.length ≤ 9223372036854775806 ∧ e.val.length ≤ 9223372036854775806) (hn : m.items.length ≤ 1466015503658)
    (hV : VIn W ba L) (hS : Stk.Ls W ba bc L) (hlz : ∀ v ∈ L, v.l.length ≤ 4398046510976) (hlp : ∀ v ∈ L, ∀ (k : Nat) (e : En), v.l[k]? = some e → e.key.length ≤ 9223372036854775806 ∧ e.val.length ≤ 9223372036854775806) (hln : L.length ≤ 1954687338211) (hT : TB W) (hE : EG W) (hK : KIn W) :
    Calls Tryz.prog 5 #[.agg #[.int .i64 m.since, .int .i64 m.next, .slice qa m.items.length qc], .agg #[.int .i64 next, .slice ba L.length bc], .int .i64 since] W fun e W' => e = .returned (.bool true) ∧ Below W.heap.size W W' := by
  have HQ := Hid.mk (Wq.start W m qa qc next L ba bc)
  have HI := Hid.mk hI
  have HV := Hid.mk hV
  have HS := Hid.mk hS
  have HT := Hid.mk hT
  have HE := Hid.mk hE
  have HK := Hid.mk hK
  have HZ := Hid.mk hz
  have HP := Hid.mk hp
  have HLZ := Hid.mk hlz
  have HLP := Hid.mk hlp
  clear hI hV hS hT hE hK hz hp hlz hlp
  go_enter Tryz.func5, Tryz.ntmps5
  go_wp2_with fail
  generalize (W.alloc (.cells #[.int .i64 m.since, .int .i64 m.next, .slice qa m.items.length qc] 38)).alloc (.cells #[.int .i64 next, .slice ba L.length bc] 24) = W1 at *
  with_reducible refine Calls.mono (head_any _ (HT.out.below HQ.out.bel) (HE.out.below HQ.out.bel) (HK.out.seq HQ.out.bel)) ?_
  rintro e w1 ⟨rfl, cx⟩
  dsimp only
  replace HQ := Hid.mk (HQ.out.later cx)
  clear cx
  -- the document's Write
  have hc := qWriteM_any m w1 qa qc (HI.out.later HQ.out.bel) HZ.out HP.out (by omega)
  obtain ⟨p0, p1, p2⟩ := HQ.out.m.cells
  go_wp2_with fail
  clear p0 p1 p2
  with_reducible refine Calls.mono hc ?_
  rintro e w2 hw
  obtain ⟨rfl, cx⟩ := hw.uni
  clear hc hw
  dsimp only
  replace HQ := Hid.mk (HQ.out.later cx)
  clear cx
  -- the document's Of
  have hc := qOf_any L next since w2 ba _ bc rfl (HV.out.later HQ.out.bel) (by omega) HLZ.out HLP.out
  obtain ⟨p0, p1⟩ := HQ.out.b.cells
  go_wp2_with fail
  clear p0 p1
  with_reducible refine Calls.mono hc ?_
  rintro e w3 hw
  obtain ⟨xa, xc, rfl, hx, cx⟩ := hw.uni
  clear hc hw
  dsimp only
  have HM := Hid.mk (ofM_l (L := L) (next := next) (since := since) HLZ.out)
  have HMn := Hid.mk (ofM_n (L := L) (next := next) (since := since))
  have HOF : Hid (∀ (w' : World) (va : Option Addr) (vc : Nat), VIn w' va L → KIn w' → Calls Tryz.prog 7 #[.agg #[.int .i64 next, .slice va L.length vc], .int .i64 since] w' fun e w'' => ∃ ya yc, e = .returned (.tuple #[.agg #[.int .i64 (ofM L next since).since, .int .i64 (ofM L next since).next, .slice ya (ofM L next since).items.length yc], .int .i64 (ofC L next since)]) ∧ (∃ R : List Ri, R.map (·.1) = (ofM L next since).items ∧ Fi w'.heap.size w'' (.slice ya (ofM L next since).items.length yc) R) ∧ Below w'.heap.size w' w'') :=
    ⟨fun w' va vc h hk => (of_any L next since w' va _ vc rfl h hk (by omega) (fun v hv => by have := HLZ.out v hv; omega)).mono fun e w'' h' => h'.uni⟩
  generalize ofC L next since = ec at *
  generalize ofM L next since = y at *
  have zx := Bn3.new w3 y.since y.next (.slice xa y.items.length xc)
  have cx2 := (Below.refl w3.heap.size w3).alloc (Nat.le_refl _) (.cells #[.int .i64 y.since, .int .i64 y.next, .slice xa y.items.length xc] 38)
  replace HQ := Hid.mk ((HQ.out.later cx).later cx2)
  have HX : Hid (Bn3 (w3.alloc (.cells #[.int .i64 y.since, .int .i64 y.next, .slice xa y.items.length xc] 38)) w3.heap.size y.since y.next (.slice xa y.items.length xc) ∧ IIt (w3.alloc (.cells #[.int .i64 y.since, .int .i64 y.next, .slice xa y.items.length xc] 38)) xa y.items) := ⟨zx, hx.later cx2⟩
  clear cx cx2 zx hx
  -- own
  have hc := own_any m (w3.alloc (.cells #[.int .i64 y.since, .int .i64 y.next, .slice xa y.items.length xc] 38)) qa qc (HI.out.later HQ.out.bel) HZ.out hn
  obtain ⟨p0, p1, p2⟩ := HQ.out.m.cells
  go_wp2_with fail
  clear p0 p1 p2
  generalize w3.alloc (.cells #[.int .i64 y.since, .int .i64 y.next, .slice xa y.items.length xc] 38) = w4 at *
  generalize w3.heap.size = g9 at *
  with_reducible refine Calls.mono hc ?_
  rintro e w5 ⟨R, ra, rc, rfl, hR, hM, cx⟩
  clear hc
  dsimp only
  have cx2 := (Below.refl w5.heap.size w5).alloc (Nat.le_refl _) (.cells #[.int .i64 m.since, .int .i64 m.next, .slice ra R.length rc] 28)
  have zo := Bm3.new w5 m.since m.next (.slice ra R.length rc)
  have cxx := below_seq cx cx2
  replace HQ := Hid.mk (HQ.out.later cxx)
  replace HX := Hid.mk (And.intro (HX.out.1.later cxx) (HX.out.2.later cxx))
  have HO : Hid (Mk w4.heap.size (w5.alloc (.cells #[.int .i64 m.since, .int .i64 m.next, .slice ra R.length rc] 28)) (.slice ra (R.length + 1) rc) R [(mkI, none, 0)] ∧ R.map (·.1) = m.items) := ⟨hM.later cx2, hR⟩
  have HRl : Hid (R.length = m.items.length) := ⟨by rw [← hR, List.length_map]⟩
  clear cx cx2 cxx hM hR
  -- the program's Write
  have hi := HO.out.1.it
  rw [HO.out.2] at hi
  have hc := mWrite_any m (w5.alloc (.cells #[.int .i64 m.since, .int .i64 m.next, .slice ra R.length rc] 28)) ra rc hi HZ.out (by omega) (HT.out.below HQ.out.bel)
  rw [← HRl.out] at hc
  obtain ⟨p0, p1, p2⟩ := zo.cells
  go_wp2_with fail
  clear p0 p1 p2 zo hi
  generalize w5.alloc (.cells #[.int .i64 m.since, .int .i64 m.next, .slice ra R.length rc] 28) = w6 at *
  generalize w5.heap.size = g11 at *
  with_reducible refine Calls.mono hc ?_
  rintro e w7 hw
  obtain ⟨rfl, cx⟩ := hw.uni
  clear hc hw
  dsimp only
  replace HQ := Hid.mk (HQ.out.later cx)
  replace HX := Hid.mk (And.intro (HX.out.1.later cx) (HX.out.2.later cx))
  replace HO := Hid.mk (And.intro (HO.out.1.later cx) HO.out.2)
  clear cx
  -- Copy
  have hc := Stk.rCopy_any L w7 ba _ bc rfl (HS.out.later HQ.out.bel) (by omega) (fun v hv => by have := HLZ.out v hv; omega)
  obtain ⟨p0, p1⟩ := HQ.out.b.cells
  go_wp2_with fail
  clear p0 p1
  with_reducible refine Calls.mono hc ?_
  rintro e w8 ⟨vv, rfl, hC, cx⟩
  clear hc
  dsimp only
  -- the mark behind it
  go_wp2_with (refine Stk.app_cp rfl _ _ rfl mkV (ma := none) (mn := 0) (mc := 0) rfl rfl hC (Below.refl _ _) (Ow.nil _ _ (Nat.le_refl _)) rfl (by omega) rfl rfl ?_; intro v9 w9 hC9 hb9; obtain ⟨va, vc, rfl, hL9⟩ := hC9.ls; have c9 := cx.trans hb9; replace HQ := Hid.mk (HQ.out.later c9); replace HX := Hid.mk (And.intro (HX.out.1.later c9) (HX.out.2.later c9)); replace HO := Hid.mk (And.intro (HO.out.1.later c9) HO.out.2); have HL9 := Hid.mk hL9; obtain ⟨p0, p1⟩ := HQ.out.b.cells; rw [show (L ++ [mkV]).length = L.length + 1 by simp]; clear hC9 hb9 hL9 c9)
  obtain ⟨gl1, gl2, gl3⟩ : L.length + 1 ≤ vc ∧ vc ≤ 9223372036854775807 ∧ (va = none → vc = 0) := ⟨by have := HL9.out.le; simpa using this, HL9.out.max, HL9.out.nil⟩
  have hsl : ∀ w, (slVw (.slice va (L.length + 1) vc) none (some (.int .i64 (L.length : Int))) none).run Tryz.prog w = .ok (.slice va L.length vc) w := fun w => run_slVw va (L.length + 1) vc L.length (by omega) gl2 gl3 w
  have hvl : VIn w9 va L := ⟨by
    have h := (HL9.out.take L.length).at'
    rw [List.take_left' rfl] at h
    exact h.get⟩
  have hop := fun (w' : World) (h : Below w9.heap.size w9 w') => HOF.out w' va vc (hvl.later h) (HK.out.seq (HQ.out.bel.trans (h.mono HQ.out.bel.size)))
  have HS9 : Hid (∀ w', Below w9.heap.size w9 w' → Below w9.heap.size w9 w' ∧ w'.cell? ⟨W.heap.size + 1, 0, none⟩ = some (.int .i64 next)) := ⟨fun w' h => ⟨h, ((HQ.out.b.later h).cells).1⟩⟩
  have HG := Hid.mk (And.intro gl1 (And.intro gl2 gl3))
  have HHV := Hid.mk hvl
  clear gl1 gl2 gl3 hvl hC cx p0 p1
  go_cut [18, 17] from 52 (fun ve vx wx => ∃ (gx : Nat) (ya : Option Addr) (yc : Nat), ve = .int .i64 ec ∧ vx = .pointer (some ⟨gx, 0, none⟩) ∧ Hid (Below w9.heap.size w9 wx ∧ Bm3 wx gx y.since y.next (.slice ya y.items.length yc) ∧ IIt wx ya y.items))
  case first =>
    go_region_held3 (fun w' => Below w9.heap.size w9 w' ∧ w'.cell? ⟨W.heap.size + 1, 0, none⟩ = some (.int .i64 next)) ((refine HS9.out _ ?_; first
      | with_reducible exact (Below.refl _ _).drew
      | with_reducible exact bC
      | with_reducible exact bal1 bC _
      | with_reducible exact (bal1 (Below.refl _ _) _).drew
      | with_reducible exact below3 bC hgx _ _ _)) (first
      | (go_at_call 7; with_reducible refine Calls.mono (hop _ (And.left (by assumption))) ?_; rintro e w10 ⟨ya, yc, rfl, ⟨RR, hRR, hy⟩, x2⟩; first
        | (with_reducible have bC := below_seq (Below.refl w9.heap.size w9).drew x2; clear x2)
        | (with_reducible have bC := below_seq (bal1 (Below.refl w9.heap.size w9) _).drew x2; with_reducible have hz6 := zq3 x2; have z0 := hz6.cells.1; have z1 := hz6.cells.2.1; have z2 := hz6.cells.2.2; have f0 := hz6.fz 0; have f1 := hz6.fz 1; have f2 := hz6.fz 2; have hgx := Nat.le_refl w9.heap.size; clear x2)))
    all_goals (go_wp2_with fail)
    all_goals go_meet
    all_goals (first
      | exact ⟨_, _, _, rfl, rfl, ⟨bal1 bC _, Bm3.new _ _ _ _, fi_it hRR (hy.later (bal1 (Below.refl _ _) _))⟩⟩
      | exact ⟨_, _, _, rfl, rfl, ⟨below3 bC hgx _ _ _, wset3 hz6 _ _ _, fi_it hRR (fi_oth3 hy (by simp) _ _ _)⟩⟩)
  obtain ⟨g17, ya, yc, rfl, rfl, HY⟩ := hcut
  replace HQ := Hid.mk (HQ.out.later HY.out.1)
  replace HX := Hid.mk (And.intro (HX.out.1.later HY.out.1) (HX.out.2.later HY.out.1))
  replace HO := Hid.mk (And.intro (HO.out.1.later HY.out.1) HO.out.2)
  replace HL9 := Hid.mk (HL9.out.later HY.out.1)
  replace HY := Hid.mk HY.out.2
  clear hop HS9 hsl HHV HOF
  obtain ⟨gl1, gl2, gl3⟩ := HG.out
  obtain ⟨vb, vo, vma, vmc, rfl, hvb, x0, x1, -⟩ := HL9.out.at'.get L.length mkV (by simp)
  have hsl : ∀ w, (slVw (.slice (some ⟨vb, vo, none⟩) (L.length + 1) vc) none (some (.int .i64 (L.length : Int))) none).run Tryz.prog w = .ok (.slice (some ⟨vb, vo, none⟩) L.length vc) w := fun w => run_slVw _ (L.length + 1) vc L.length (by omega) gl2 gl3 w
  have hst : ∀ w' : World, Below wc.heap.size wc w' → Calls Tryz.prog 19 #[.slice ra (R.length + 1) rc, .agg #[.int .i64 m.since, .int .i64 m.next, .slice qa m.items.length qc]] w' fun e w'' => e = .returned (.bool true) ∧ Below w'.heap.size w' w'' := fun w' h => by
    have q := stays_any m w' qa qc (HI.out.later (HQ.out.bel.trans (h.mono HQ.out.bel.size))) HZ.out hn R ra rc _ HO.out.2 (HO.out.1.later h)
    rw [HRl.out]; exact q
  have hdo := fun (w' : World) (h : Below wc.heap.size wc w') => (doc_any y w' ya yc (HY.out.2.later h) (by have := HMn.out; omega)).mono (R' := fun e w'' => ∃ za zc, e = .returned (.agg #[.int .i64 y.since, .int .i64 y.next, .slice za y.items.length zc]) ∧ IIt w'' za y.items ∧ Below w'.heap.size w' w'') (fun e w'' h => h)
  have hsa := fun (w' : World) (za : Option Addr) (zc : Nat) (h : Below wc.heap.size wc w') (hz : IIt w' za y.items) => (qSame_any y y w' za xa zc xc hz (HX.out.2.later h) (fun x hx => by have := HM.out x hx; omega) (by have := HMn.out; omega)).mono (R' := fun e w'' => e = .returned (.bool true) ∧ Below w'.heap.size w' w'') (by
    rintro e w'' ⟨t, rfl, ht, hb⟩
    exact ⟨by rw [ht.2 (sam_refl y)], hb⟩)
  have hls := fun (w' : World) (h : Below wc.heap.size wc w') => (Stk.sameList_any L L w' (some ⟨vb, vo, none⟩) L.length vc ba L.length bc ⟨rfl, by
    have q := (HL9.out.later h).take L.length
    rw [List.take_left' rfl] at q
    exact q, by omega, fun v hv => by have := HLZ.out v hv; omega⟩ ⟨rfl, HS.out.later (HQ.out.bel.trans (h.mono HQ.out.bel.size)), by omega, fun v hv => by have := HLZ.out v hv; omega⟩).mono (R' := fun e w'' => e = .returned (.bool true) ∧ Below w'.heap.size w' w'') (by
    rintro e w'' ⟨rfl, hb⟩
    exact ⟨by rw [svL_refl], hb⟩)
  have HSC : Hid (∀ w', Below wc.heap.size wc w' → Below wc.heap.size wc w' ∧ w'.cell? ⟨W.heap.size, 0, none⟩ = some (.int .i64 m.since) ∧ w'.cell? ⟨W.heap.size, 1, none⟩ = some (.int .i64 m.next) ∧ w'.cell? ⟨W.heap.size, 2, none⟩ = some (.slice qa m.items.length qc) ∧ w'.cell? ⟨g9, 0, none⟩ = some (.int .i64 y.since) ∧ w'.cell? ⟨g9, 1, none⟩ = some (.int .i64 y.next) ∧ w'.cell? ⟨g9, 2, none⟩ = some (.slice xa y.items.length xc) ∧ w'.cell? ⟨g17, 0, none⟩ = some (.int .i64 y.since) ∧ w'.cell? ⟨g17, 1, none⟩ = some (.int .i64 y.next) ∧ w'.cell? ⟨g17, 2, none⟩ = some (.slice ya y.items.length yc) ∧ w'.cell? ⟨W.heap.size + 1, 1, none⟩ = some (.slice ba L.length bc) ∧ w'.cell? ⟨vb, vo + L.length * 5 + 1, none⟩ = some (.int .i64 (-77))) := ⟨fun w' h => by
    obtain ⟨a0, a1, a2⟩ := (HQ.out.m.later h).cells
    obtain ⟨b0, b1, b2⟩ := (HX.out.1.later h).cells
    obtain ⟨c0, c1, c2⟩ := (HY.out.1.later h).cells
    exact ⟨h, a0, a1, a2, b0, b1, b2, c0, c1, c2, ((HQ.out.b.later h).cells).2, (h.cell (p := ⟨vb, _, none⟩) hvb).trans x1⟩⟩
  have HB := Hid.mk HQ.out.bel
  have i0 : (0 : Int) ≤ (L.length : Int) := Int.natCast_nonneg _
  have i1 : (L.length : Int) < (L.length : Int) + 1 := by omega
  generalize wrT m = tw at *
  generalize wrC m = ew at *
  clear x0 x1 hvb gl1 gl2 gl3 HG HL9 HO HX HQ HI HV HS HT HE HK HZ HP HLZ HLP HRl
  go_wp2_with fail
  go_region_held3 (fun w' => Below wc.heap.size wc w' ∧ w'.cell? ⟨W.heap.size, 0, none⟩ = some (.int .i64 m.since) ∧ w'.cell? ⟨W.heap.size, 1, none⟩ = some (.int .i64 m.next) ∧ w'.cell? ⟨W.heap.size, 2, none⟩ = some (.slice qa m.items.length qc) ∧ w'.cell? ⟨g9, 0, none⟩ = some (.int .i64 y.since) ∧ w'.cell? ⟨g9, 1, none⟩ = some (.int .i64 y.next) ∧ w'.cell? ⟨g9, 2, none⟩ = some (.slice xa y.items.length xc) ∧ w'.cell? ⟨g17, 0, none⟩ = some (.int .i64 y.since) ∧ w'.cell? ⟨g17, 1, none⟩ = some (.int .i64 y.next) ∧ w'.cell? ⟨g17, 2, none⟩ = some (.slice ya y.items.length yc) ∧ w'.cell? ⟨W.heap.size + 1, 1, none⟩ = some (.slice ba L.length bc) ∧ w'.cell? ⟨vb, vo + L.length * 5 + 1, none⟩ = some (.int .i64 (-77))) ((refine HSC.out _ ?_; first
      | with_reducible exact (Below.refl _ _).drew
      | with_reducible exact B4
      | with_reducible exact B3
      | with_reducible exact B2
      | with_reducible exact B1)) (first
      | (go_at_call 19; with_reducible refine Calls.mono (hst _ (And.left (by assumption))) ?_; rintro e w21 ⟨rfl, y1⟩; have B1 := below_seq (And.left (by assumption)) y1)
      | (go_at_call 12; with_reducible refine Calls.mono (hsa _ _ _ (And.left (by assumption)) hzi) ?_; rintro e w23 ⟨rfl, y3⟩; have B3 := below_seq (And.left (by assumption)) y3)
      | (go_at_call 20; with_reducible refine Calls.mono (hls _ (And.left (by assumption))) ?_; rintro e w24 ⟨rfl, y4⟩; have B4 := below_seq (And.left (by assumption)) y4)
      | (go_at_call 10; with_reducible refine Calls.mono (hdo _ (And.left (by assumption))) ?_; rintro e w22 ⟨za, zc, rfl, hzi, y2⟩; have B2 := below_seq (And.left (by assumption)) y2))
  all_goals (go_wp2_with fail)
  go_ret
  exact ⟨rfl, HB.out.trans (B4.mono HB.out.size)⟩
end Go.Proofs.YtkkhmlcnfnaadaaGreatDoor
