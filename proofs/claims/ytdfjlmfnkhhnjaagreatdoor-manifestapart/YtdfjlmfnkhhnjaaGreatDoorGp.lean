import Derived.Test.YtdfjlmfnkhhnjaaGreatDoorGu
import Derived.Test.YtdfjlmfnkhhnjaaGreatDoorGt
/- doc: the program's manifest as the document's. -/
namespace Go.Proofs.YtdfjlmfnkhhnjaaGreatDoor
set_option maxRecDepth 100000
set_option linter.unusedVariables false
set_option linter.unusedSimpArgs false
open Go.RowKit
open Go.Proofs.YtdfjlmfnkhhnjaaGreatDoorH (hv hv_length hv_one hv_eq)
theorem infoQf : (Tryz.prog.info? 81).map (fun i => (i.zero, i.size, i.bytes)) = some (some (.agg zI), 37, 96) := by kernel_rfl
noncomputable def bdQ (v : Array (Nat × Value)) : Sem Value := Instr.build 81 v
theorem bdQe (v : Array (Nat × Value)) : Instr.build 81 v = bdQ v := rfl
theorem lay_fiveQ (k : List UInt8) (s : Int) (m : Bool) (z : Int) (a : Option Addr) (n c : Nat) (f : Nat → UInt8) : Tryz.prog.built 81 [(0, str k), (1, .int .i64 s), (2, .bool m), (3, .int .i64 z), (4, .slice a n c), (5, .agg (hv f).toArray)] = some (([str k, .int .i64 s, .bool m, .int .i64 z, .slice a n c] ++ hv f).toArray) := by
  rw [hv_eq]
  kernel_rfl
theorem run_bdQ (x : It) (a : Option Addr) (c : Nat) (w : World) : (bdQ #[(0, str x.key), (1, .int .i64 x.seq), (2, .bool x.mkr), (3, .int .i64 x.size), (4, .slice a x.l.length c), (5, .agg (hv x.g).toArray)]).run Tryz.prog w = .ok (.agg (ic x a c).toArray) w := by
  unfold bdQ ic
  exact run_build w 81 _ _ (lay_fiveQ _ _ _ _ _ _ _ _)
theorem run_box37Q (w : World) (x : It) (a : Option Addr) (c : Nat) : (Instr.buildSlice 36 1 #[(0, .agg (ic x a c).toArray)]).run Tryz.prog w = .ok (.slice (some ⟨w.heap.size, 0, none⟩) 1 1) (w.alloc (.cells (ic x a c).toArray 81)) := by
  obtain ⟨i, e1, e2, e3, e4⟩ := info_parts infoQf
  refine run_buildSlice w 36 81 1 _ _ i _ Tryz.underlying36 e1 e2 (by rw [e3]; decide) (by rw [e3]; decide) ?_
  have hc : (Value.cells (.agg (ic x a c).toArray)) = (ic x a c).toArray := rfl
  have hs : (Value.cells (.agg (ic x a c).toArray)).size = 37 := by rw [hc, List.size_toArray, ic_length]
  show Instr.fill _ _ [(0, .agg (ic x a c).toArray)] = _
  unfold Instr.fill
  simp only [Nat.zero_mul, hs, e3]
  rw [if_neg (by simp)]
  unfold Instr.fill
  rw [hc]
  congr 1
  rw [← Array.foldl_toList, Array.toList_zipIdx]
  rw [fold_lay, lay_all _ _ (by simp [ic_length])]
noncomputable def bsQ (l : Nat) (v : Array (Nat × Value)) : Sem Value := Instr.buildSlice 36 l v
theorem bsQe (l : Nat) (v : Array (Nat × Value)) : Instr.buildSlice 36 l v = bsQ l v := rfl
theorem run_bsQ (x : It) (a : Option Addr) (c : Nat) (w : World) : (bsQ 1 #[(0, .agg (ic x a c).toArray)]).run Tryz.prog w = .ok (.slice (some ⟨w.heap.size, 0, none⟩) 1 1) (w.alloc (.cells (ic x a c).toArray 81)) := run_box37Q w x a c
theorem run_rq {base : Nat} {w1 : World} {v : Value} {R : List Ri} (r : Ri) (hO : w1.ownsRow base 81 37 v R.length (rics R)) (hle : base ≤ w1.heap.size) (hn : R.length ≤ 1466015503680) :
    ∃ g' c' w', (∀ ty, (Builtin.append_ #[36, 36] ty #[v, .slice (some ⟨w1.heap.size, 0, none⟩) 1 1]).run Tryz.prog (w1.alloc (.cells (ri r).toArray 81)) = .ok (.slice (some ⟨g', 0, none⟩) (R.length + 1) c') w') ∧ w'.ownsRow base 81 37 (.slice (some ⟨g', 0, none⟩) (R.length + 1) c') (R.length + 1) (rics (R ++ [r])) ∧ w1.heap.size ≤ w'.heap.size ∧ Below base w1 w' := by
  obtain ⟨i0, hi, hz0, hz1, hz2⟩ := info_parts infoQf
  have hmx : maxLen = 9223372036854775807 := rfl
  have o1 : (w1.alloc (.cells (ri r).toArray 81)).ownsRow base 81 37 v R.length (rics R) := hO.alloc _
  obtain ⟨g2, cap2, w', hr, hown, hgrow, hat, hlt⟩ := run_append_lies (P := Tryz.prog) (w := w1.alloc (.cells (ri r).toArray 81)) 36 36 base 81 i0 _ 37 96 Tryz.underlying36 hi hz0 hz1 hz2 rfl (by omega) v R.length (rics R) o1 ⟨w1.heap.size, 0, none⟩ 1 1 (ri r) (by rw [ri_len])
    (World.news_of_block (cs := (ri r).toArray) (t := 81) (fr := (0, 0)) (heap_alloc_new w1 _)) (ic_one _ _ _) (by omega) (by rw [hmx]; omega) (by omega) (by simp; omega) _ rfl
  have hsz : w1.heap.size ≤ w'.heap.size := by have := hgrow.size; simp at this; omega
  refine ⟨g2, cap2, w', fun ty => hr, ?_, hsz, ((Below.refl _ _).alloc hle _).trans (grown_below o1 (by simp; omega) hgrow)⟩
  rw [rics_append, rics_one']
  exact hown
/-- what is kept while it is made -/
structure Dk (w W : World) (m : Ma) (a : Option Addr) (cap : Nat) (v : Value) (R : List Ri) : Prop where
  g0 : Bm3 W w.heap.size m.since m.next (.slice a m.items.length cap)
  g1 : Bn3 W (w.heap.size + 1) 0 0 (.slice none 0 0)
  g2 : Bn3 W (w.heap.size + 1 + 1) m.since m.next v
  own : W.ownsRow (w.heap.size + 3) 81 37 v R.length (rics R)
  le : w.heap.size + 3 ≤ W.heap.size
  met : ∀ (k : Nat) (r : Ri), R[k]? = some r → Sl w r.2.1 r.2.2 r.1.l
  bel : Below w.heap.size w W
theorem Bn3.oth {w w' : World} {g : Nat} {s n : Int} {v : Value} (h : Bn3 w g s n v) (he : w'.heap[g]? = w.heap[g]?) : Bn3 w' g s n v := by unfold Bn3; rw [he]; exact h
theorem Bn3.fz {w : World} {g : Nat} {s n : Int} {v : Value} (h : Bn3 w g s n v) (j : Nat) : w.frozen? ⟨g, j, none⟩ = false := frozen_of_row _ _ _ _ _ h
theorem Bn3.set3 {W : World} {r : Nat} {s n : Int} {v : Value} (h : Bn3 W r s n v) (s' n' : Int) (v' : Value) : Bn3 (((W.setCell ⟨r, 0, none⟩ (.int .i64 s')).setCell ⟨r, 1, none⟩ (.int .i64 n')).setCell ⟨r, 2, none⟩ v') r s' n' v' := by
  have e1 : Bn3 (W.setCell ⟨r, 0, none⟩ (.int .i64 s')) r s' n v := by unfold Bn3; rw [heap_setCell_same _ _ _ _ _ _ h]; rfl
  have e2 : Bn3 ((W.setCell ⟨r, 0, none⟩ (.int .i64 s')).setCell ⟨r, 1, none⟩ (.int .i64 n')) r s' n' v := by unfold Bn3; rw [heap_setCell_same _ _ _ _ _ _ e1]; rfl
  unfold Bn3; rw [heap_setCell_same _ _ _ _ _ _ e2]; rfl
theorem Dk.later {w W W' : World} {m : Ma} {a : Option Addr} {cap : Nat} {v : Value} {R : List Ri} (h : Dk w W m a cap v R) (hb : Below W.heap.size W W') : Dk w W' m a cap v R :=
  ⟨h.g0.later hb, h.g1.later hb, h.g2.later hb, own_later h.own hb, Nat.le_trans h.le hb.size, h.met, h.bel.trans (hb.mono h.bel.size)⟩
theorem Dk.more {w W w2 : World} {m : Ma} {a : Option Addr} {cap : Nat} {v v' : Value} {R : List Ri} (r : Ri) (h : Dk w W m a cap v R) (hs : Sl w r.2.1 r.2.2 r.1.l) (hown : w2.ownsRow (w.heap.size + 3) 81 37 v' (R.length + 1) (rics (R ++ [r]))) (hsz : W.heap.size ≤ w2.heap.size) (h2 : Below (w.heap.size + 3) W w2) :
    Dk w (w2.setCell ⟨w.heap.size + 1 + 1, 2, none⟩ v') m a cap v' (R ++ [r]) := by
  have e2 : Bn3 w2 (w.heap.size + 1 + 1) m.since m.next v := h.g2.oth (h2.block _ (by omega))
  refine ⟨h.g0.oth ((hso _ _ (by omega)).trans (h2.block _ (by omega))), h.g1.oth ((hso _ _ (by omega)).trans (h2.block _ (by omega))), by unfold Bn3; rw [heap_setCell_same _ _ _ _ _ _ e2]; rfl, ?_, by simpa using Nat.le_trans h.le hsz, ?_, (h.bel.trans (h2.mono (by omega))).setCell (p := ⟨w.heap.size + 1 + 1, 2, none⟩) (by show w.heap.size ≤ w.heap.size + 1 + 1; omega) _⟩
  · have := own_keep (w' := w2.setCell ⟨w.heap.size + 1 + 1, 2, none⟩ v') hown (fun g hg => hso _ _ (by have := (hown.lt g hg).1; omega))
    simpa using this
  · intro k q hq
    by_cases hkl : k < R.length
    · rw [List.getElem?_append_left hkl] at hq
      exact h.met k q hq
    · have hkl' : k = R.length := by
        have := (List.getElem?_eq_some_iff.1 hq).1
        simp at this; omega
      subst hkl'
      simp at hq
      subst hq
      exact hs
theorem Dk.it {w W : World} {m : Ma} {a : Option Addr} {cap : Nat} {v : Value} {R : List Ri} (h : Dk w W m a cap v R) {ra : Option Addr} {n rc : Nat} (hv : v = .slice ra n rc) : IIt W ra (R.map (·.1)) := by
  subst hv
  refine ⟨fun k x hk => ?_⟩
  rw [List.getElem?_map] at hk
  cases hq : R[k]? with
  | none => rw [hq] at hk; cases hk
  | some r =>
    rw [hq] at hk
    simp at hk
    subst hk
    have hkl := (List.getElem?_eq_some_iff.1 hq).1
    rcases h.own.2 with ⟨e, h0⟩ | ⟨g, cap', cur, e, hbg, hg, _⟩
    · omega
    · injection e with e1 e2 e3
      subst e1 e2
      refine ⟨g, 0, r.2.1, r.2.2, rfl, lt_of_block hg, fun j v hj => ?_, (h.met k r hq).later h.bel⟩
      have hj2 : j < 37 := by have := (List.getElem?_eq_some_iff.1 hj).1; rw [ic_length] at this; exact this
      have hl := rics_len R
      rw [Nat.zero_add, h.own.cellAt _ (by omega), rics_get R k r hq j hj2]
      exact hj
end Go.Proofs.YtdfjlmfnkhhnjaaGreatDoor

/- doc: the walk. -/
namespace Go.Proofs.YtdfjlmfnkhhnjaaGreatDoor
set_option maxRecDepth 100000
set_option linter.unusedVariables false
set_option linter.unusedSimpArgs false
open Go.RowKit
open Go.Proofs.YtdfjlmfnkhhnjaaGreatDoorH (hv hv_length hv_one hv_eq)
attribute [local go_sem ↓] Go.wp_at_zero Go.wp_at_succ bsQe bdQe ldHe ldIe stIe
attribute [local go_sem] run_bsQ
/-- what doc answers -/
def DoP (m : Ma) (w : World) (e : Ending) (w' : World) : Prop := ∃ a' c', e = .returned (.agg #[.int .i64 m.since, .int .i64 m.next, .slice a' m.items.length c']) ∧ IIt w' a' m.items ∧ Below w.heap.size w w'
theorem it_of {w W : World} {B : Nat} {R : List Ri} {ra : Option Addr} {n rc : Nat} (own : W.ownsRow B 81 37 (.slice ra n rc) R.length (rics R)) (met : ∀ (k : Nat) (r : Ri), R[k]? = some r → Sl w r.2.1 r.2.2 r.1.l) (bel : Below w.heap.size w W) : IIt W ra (R.map (·.1)) := by
  refine ⟨fun k x hk => ?_⟩
  rw [List.getElem?_map] at hk
  cases hq : R[k]? with
  | none => rw [hq] at hk; cases hk
  | some r =>
    rw [hq] at hk
    simp at hk
    subst hk
    have hkl := (List.getElem?_eq_some_iff.1 hq).1
    rcases own.2 with ⟨e, h0⟩ | ⟨g, cap', cur, e, hbg, hg, _⟩
    · omega
    · injection e with e1 e2 e3
      subst e1 e2
      refine ⟨g, 0, r.2.1, r.2.2, rfl, lt_of_block hg, fun j v hj => ?_, (met k r hq).later bel⟩
      have hj2 : j < 37 := by have := (List.getElem?_eq_some_iff.1 hj).1; rw [ic_length] at this; exact this
      have hl := rics_len R
      rw [Nat.zero_add, own.cellAt _ (by omega), rics_get R k r hq j hj2]
      exact hj
set_option maxHeartbeats 8000000 in
theorem doc_any (m : Ma) (w : World) (a : Option Addr) (cap : Nat) (hL : IIt w a m.items) (hl : m.items.length ≤ 1466015503658) :
    Calls Tryz.prog 10 #[.agg #[.int .i64 m.since, .int .i64 m.next, .slice a m.items.length cap]] w (DoP m w) := by
  have b0 := (Below.refl w.heap.size w).alloc (Nat.le_refl _) (.cells #[.int .i64 m.since, .int .i64 m.next, .slice a m.items.length cap] 28)
  have b1 := b0.alloc b0.size (.cells #[.int .i64 0, .int .i64 0, .slice none 0 0] 38)
  have b2 := b1.alloc b1.size (.cells #[.int .i64 m.since, .int .i64 m.next, .slice none 0 0] 38)
  have HK0 : Hid (Dk w (((w.alloc (.cells #[.int .i64 m.since, .int .i64 m.next, .slice a m.items.length cap] 28)).alloc (.cells #[.int .i64 0, .int .i64 0, .slice none 0 0] 38)).alloc (.cells #[.int .i64 m.since, .int .i64 m.next, .slice none 0 0] 38)) m a cap (.slice none 0 0) []) := ⟨by
    refine ⟨?_, ?_, ?_, World.ownsRow_nil _ _ _ _, by simp, fun k r h => by simp at h, b2⟩
    · unfold Bm3; rw [heap_alloc_old _ _ _ (by simp; omega), heap_alloc_old _ _ _ (by simp)]; exact heap_alloc_new _ _
    · have := Bn3.new (w.alloc (.cells #[.int .i64 m.since, .int .i64 m.next, .slice a m.items.length cap] 28)) 0 0 (.slice none 0 0)
      rw [World.size_alloc] at this
      exact this.oth (heap_alloc_old _ _ _ (by simp))
    · have := Bn3.new ((w.alloc (.cells #[.int .i64 m.since, .int .i64 m.next, .slice a m.items.length cap] 28)).alloc (.cells #[.int .i64 0, .int .i64 0, .slice none 0 0] 38)) m.since m.next (.slice none 0 0)
      rw [World.size_alloc, World.size_alloc] at this
      exact this⟩
  have HL := Hid.mk hL
  clear hL b0 b1 b2
  obtain ⟨since, next, items⟩ := m
  dsimp only at *
  go_enter Tryz.func10, Tryz.ntmps10
  go_wp2_with fail
  go_loopw [4] (fun i wr => ∃ (k : Nat) (R : List Ri) (ra : Option Addr) (rc : Nat), k ≤ items.length ∧ i = .int .i64 (k : Int) ∧ Hid (R.length = k) ∧ Hid (Dk w wr ⟨since, next, items⟩ a cap (.slice ra R.length rc) R) ∧ Hid (R.map (·.1) = items.take k)) (fun i _ => items.length - (intOf i).toNat)
  case atStart => exact ⟨0, [], none, 0, Nat.zero_le _, rfl, ⟨rfl⟩, HK0, ⟨rfl⟩⟩
  case round =>
    obtain ⟨k, R, ra, rc, hk, rfl, hRk, HO, HR⟩ := hrel
    obtain ⟨p0, p1, p2⟩ := HO.out.g0.cells
    dsimp only at p0 p1 p2
    by_cases hlt : k < items.length
    · have d3 : decide ((k : Int) < (items.length : Int)) = true := decide_eq_true (by omega)
      have k2 : (k : Int) < (items.length : Int) := by omega
      have hw1 : wrap64 ((k : Int) + 1) = ((k + 1 : Nat) : Int) := by unfold wrap64; omega
      obtain ⟨x, hx⟩ : ∃ x, items[k]? = some x := ⟨items[k], List.getElem?_eq_getElem hlt⟩
      obtain ⟨b, off, ma, mc, hab, hbl, hra, hsl⟩ := HL.out.get k x hx
      subst hab
      have l1 := run_ldI (range_later hra hbl HO.out.bel)
      have s1 := run_stI wr x ma mc
      have bx := (Below.refl wr.heap.size wr).alloc (Nat.le_refl _) (.cells (ic x ma mc).toArray 46)
      have z1 := Bi.new wr x ma mc
      have h1 := HO.out.later bx
      generalize hW1 : wr.alloc (.cells (ic x ma mc).toArray 46) = W1 at *
      obtain ⟨c0, c1, c2, c3, c4⟩ := z1.cells
      obtain ⟨t0, t1, t2⟩ := h1.g2.cells
      have hld := run_ldH2 z1
      have hbd := fun w => run_bdQ x ma mc w
      obtain ⟨g', c', w6, hr6, o6, s6, b6⟩ := run_rq (x, ma, mc) h1.own h1.le (by have := hRk.out; omega)
      have hr : ∀ ty, (Builtin.append_ #[36, 36] ty #[.slice ra R.length rc, .slice (some ⟨W1.heap.size, 0, none⟩) 1 1]).run Tryz.prog (W1.alloc (.cells (ic x ma mc).toArray 81)) = .ok (.slice (some ⟨g', 0, none⟩) (R.length + 1) c') w6 := hr6
      have hg2 : Bn3 w6 (w.heap.size + 1 + 1) since next (.slice ra R.length rc) := h1.g2.oth (b6.block _ (by omega))
      obtain ⟨y0, y1, y2⟩ := hg2.cells
      have y3 := hg2.fz 2
      have HF : Hid (Dk w (w6.setCell ⟨w.heap.size + 1 + 1, 2, none⟩ (.slice (some ⟨g', 0, none⟩) (R.length + 1) c')) ⟨since, next, items⟩ (some ⟨b, off, none⟩) cap (.slice (some ⟨g', 0, none⟩) (R.length + 1) c') (R ++ [(x, ma, mc)])) := ⟨h1.more (x, ma, mc) hsl o6 s6 b6⟩
      have HTk : Hid (items.take (k + 1) = items.take k ++ [x]) := ⟨by rw [List.take_add_one, hx]; rfl⟩
      clear hr6 o6 s6 b6 bx h1 hg2 hra hsl hx hW1 y0 y1 z1
      go_wp2_with (refine app_run rfl _ _ rfl rfl rfl (hr _) ?_)
      refine ⟨⟨k + 1, R ++ [(x, ma, mc)], _, _, hlt, by first | (rw [hw1]; done) | rfl | go_num, ⟨by simp [hRk.out]⟩, ⟨by rw [List.length_append]; exact HF.out⟩, ⟨by rw [List.map_append, HR.out, HTk.out]; rfl⟩⟩, by first | (rw [hw1]; exact Nat.sub_lt_sub_left hlt (Nat.lt_succ_self k)) | (simp [intOf]; omega)⟩
    · obtain rfl : k = items.length := Nat.le_antisymm hk (Nat.le_of_not_lt hlt)
      have d3 : decide ((items.length : Int) < (items.length : Int)) = false := decide_eq_false (fun q => Int.lt_irrefl _ q)
      have HR1 : Hid (R.map (·.1) = items) := ⟨by have := HR.out; rwa [List.take_length] at this⟩
      obtain ⟨t0, t1, t2⟩ := HO.out.g2.cells
      obtain ⟨y0, y1, y2⟩ := HO.out.g1.cells
      have f0 := HO.out.g1.fz 0
      have f1 := HO.out.g1.fz 1
      have f2 := HO.out.g1.fz 2
      have hB := below3 (r := w.heap.size + 1) HO.out.bel (Nat.le_succ _) (.int .i64 since) (.int .i64 next) (.slice ra R.length rc)
      have hG := HO.out.g1.set3 since next (.slice ra R.length rc)
      have hI : IIt (((wr.setCell ⟨w.heap.size + 1, 0, none⟩ (.int .i64 since)).setCell ⟨w.heap.size + 1, 1, none⟩ (.int .i64 next)).setCell ⟨w.heap.size + 1, 2, none⟩ (.slice ra R.length rc)) ra items := by
        have h := it_of (own_keep (w' := ((wr.setCell ⟨w.heap.size + 1, 0, none⟩ (.int .i64 since)).setCell ⟨w.heap.size + 1, 1, none⟩ (.int .i64 next)).setCell ⟨w.heap.size + 1, 2, none⟩ (.slice ra R.length rc)) HO.out.own (fun g hg => by have := (HO.out.own.lt g hg).1; rw [hso _ _ (by omega), hso _ _ (by omega), hso _ _ (by omega)])) HO.out.met hB
        rw [HR1.out] at h
        exact h
      go_wp2_with fail
      generalize ((wr.setCell ⟨w.heap.size + 1, 0, none⟩ (.int .i64 since)).setCell ⟨w.heap.size + 1, 1, none⟩ (.int .i64 next)).setCell ⟨w.heap.size + 1, 2, none⟩ (.slice ra R.length rc) = W8 at *
      obtain ⟨q0, q1, q2⟩ := hG.cells
      refine bodyPost_ret (v := .agg #[.int .i64 since, .int .i64 next, .slice ra R.length rc]) ?_ rfl ⟨ra, rc, by rw [hRk.out], hI, hB⟩
      rw [results_c1 rfl]
      go_simp
end Go.Proofs.YtdfjlmfnkhhnjaaGreatDoor
