import Derived.Test.YtdfjlmfnkhhnjaaGreatDoorGx
import Derived.Test.YtdfjlmfnkhhnjaaGreatDoorGo
import Derived.Laws.Tables
/- itemOf: a version as an item. -/
namespace Go.Proofs.YtdfjlmfnkhhnjaaGreatDoor
set_option maxRecDepth 100000
set_option linter.unusedVariables false
set_option linter.unusedSimpArgs false
open Go.RowKit
open Go.Proofs.YtdfjlmfnkhhnjaaGreatDoorH (hv hv_length hv_one hv_eq KIn leaf leaf_hv below_setCells)
attribute [local go_sem ↓] Go.wp_at_zero Go.wp_at_succ
noncomputable def bdI (v : Array (Nat × Value)) : Sem Value := Instr.build 46 v
theorem bdIe (v : Array (Nat × Value)) : Instr.build 46 v = bdI v := rfl
theorem lay_five (k : List UInt8) (s : Int) (m : Bool) (z : Int) (a : Option Addr) (n c : Nat) (f : Nat → UInt8) : Tryz.prog.built 46 [(0, str k), (1, .int .i64 s), (2, .bool m), (3, .int .i64 z), (4, .slice a n c), (5, .agg (hv f).toArray)] = some (([str k, .int .i64 s, .bool m, .int .i64 z, .slice a n c] ++ hv f).toArray) := by
  rw [hv_eq]
  kernel_rfl
theorem run_bdI (x : It) (a : Option Addr) (c : Nat) (w : World) : (bdI #[(0, str x.key), (1, .int .i64 x.seq), (2, .bool x.mkr), (3, .int .i64 x.size), (4, .slice a x.l.length c), (5, .agg (hv x.g).toArray)]).run Tryz.prog w = .ok (.agg (ic x a c).toArray) w := by
  unfold bdI ic
  exact run_build w 46 _ _ (lay_five _ _ _ _ _ _ _ _)
/-- a slice of pairs behind a row of one's own -/
theorem run_ow {base : Nat} {w : World} {v : Value} {l : List En} {ad : Option Addr} {k c : Nat} (ty : TypeId) (q : List En) (hO : Ow base w v l) (hS : Sl w ad c q) (hk : q.length = k) (hn : l.length + q.length ≤ 4500000000000) :
    ∃ v' w', (Builtin.append_ #[43, 43] ty #[v, .slice ad k c]).run Tryz.prog w = .ok v' w' ∧ Ow base w' v' (l ++ q) ∧ Below base w w' := by
  obtain ⟨i0, hi0, hz0, hz1, hz2⟩ := infoP
  have hm : maxLen = 9223372036854775807 := rfl
  subst hk
  cases ad with
  | none =>
    have hc := hS.nil rfl
    have h0 : q.length = 0 := by have := hS.le; omega
    have hq : q = [] := List.eq_nil_of_length_eq_zero h0
    subst hq hc
    exact ⟨v, w, run_append_owned_none (P := Tryz.prog) w base 43 ty 49 i0 2 Tryz.underlying43 hi0 _ l.length (pcells l) hO.own, by simpa using hO, Below.refl _ _⟩
  | some ad =>
    have hspot : q.length = 0 ∨ ad.spot = none := by
      rcases Nat.eq_zero_or_pos q.length with h0 | h0
      · exact Or.inl h0
      · obtain ⟨b, off, e, _⟩ := hS.at'.get 0 q[0] (List.getElem?_eq_getElem h0)
        injection e with e
        exact Or.inr (by rw [e])
    have hcells : ∀ j u, (pcells q)[j]? = some u → w.cell? (ad.add j) = some u := by
      rcases hspot with h0 | h0
      · intro j u hj
        have hq : q = [] := List.eq_nil_of_length_eq_zero h0
        subst hq
        simp [pcells] at hj
      · obtain ⟨b, off, sp⟩ := ad
        simp at h0
        subst h0
        exact hS.at'.cells
    obtain ⟨v', w', hr, hown, hgrow, _⟩ := run_append_own_wide (P := Tryz.prog) w base 43 ty 49 i0 _ 2 32 Tryz.underlying43 hi0 hz0 hz1 hz2 rfl (by omega) v l.length (pcells l) hO.own ad q.length c (pcells q) (pcells_length q) hcells (pcells_one q) (by rw [hm]; omega) (by omega) hO.le
    refine ⟨v', w', hr, ⟨?_, ?_⟩, grown_below hO.own hO.le hgrow⟩
    · rw [pcells_append, List.length_append]; exact hown
    · have := hgrow.size; have h2 := hO.le; omega
/-- a version's item, with the hash of its text -/
noncomputable abbrev itOf (v : Vs) (s : List UInt8) : It := ⟨v.key, v.seq, v.mkr, v.data.length, v.l, leaf s⟩
attribute [local go_sem ↓] ldIe stIe bdIe
set_option maxHeartbeats 4000000 in
theorem itemOf_any (v : Vs) (s : List UInt8) (w : World) (a : Option Addr) (n c : Nat) (hn : v.l.length = n) (hS : Sl w a c v.l) (hK : KIn w) (hs : s.length ≤ 1048576) (hl : v.l.length ≤ 1000000000000) :
    Calls Tryz.prog 23 #[vv v.key v.seq v.mkr v.data a n c, str s] w fun e w' => ∃ a' c', e = .returned (.agg (ic (itOf v s) a' c').toArray) ∧ Ow w.heap.size w' (.slice a' v.l.length c') v.l ∧ Below w.heap.size w w' := by
  subst hn
  obtain ⟨key, seq, mkr, data, l⟩ := v
  dsimp only at *
  have b0 := (Below.refl w.heap.size w).alloc (Nat.le_refl _) (.cells #[str key, .int .i64 seq, .bool mkr, str data, .slice a l.length c] 62)
  have b1 := b0.alloc b0.size (.cells zI 46)
  obtain ⟨W1, hW1⟩ : ∃ W1, W1 = (w.alloc (.cells #[str key, .int .i64 seq, .bool mkr, str data, .slice a l.length c] 62)).alloc (.cells zI 46) := ⟨_, rfl⟩
  have hsz : W1.heap.size = w.heap.size + 2 := by rw [hW1]; simp
  have e0 : W1.heap[w.heap.size]? = some (.cells #[str key, .int .i64 seq, .bool mkr, str data, .slice a l.length c] 62 (0, 0)) := by
    rw [hW1, hao4 _ _ _ (by simp)]; exact heap_alloc_new _ _
  have e1 : W1.heap[w.heap.size + 1]? = some (.cells zI 46 (0, 0)) := by
    rw [hW1]; have := heap_alloc_new (w.alloc (.cells #[str key, .int .i64 seq, .bool mkr, str data, .slice a l.length c] 62)) (.cells zI 46); simpa using this
  rw [← hW1] at b1
  have HB1 := Hid.mk b1
  have HS1 := Hid.mk (hS.later b1)
  have HK1 := Hid.mk (hK.seq b1)
  have XC : Hid (∀ w', Below (w.heap.size + 1) W1 w' → Below (w.heap.size + 1) W1 w' ∧ w'.cell? ⟨w.heap.size, 0, none⟩ = some (str key) ∧ w'.cell? ⟨w.heap.size, 1, none⟩ = some (.int .i64 seq) ∧ w'.cell? ⟨w.heap.size, 2, none⟩ = some (.bool mkr) ∧ w'.cell? ⟨w.heap.size, 3, none⟩ = some (str data) ∧ w'.cell? ⟨w.heap.size, 4, none⟩ = some (.slice a l.length c)) := ⟨fun w' h => by
    have e := (h.block w.heap.size (by omega)).trans e0
    refine ⟨h, ?_, ?_, ?_, ?_, ?_⟩ <;> (rw [cell_of_row _ _ _ _ _ _ e]; rfl)⟩
  obtain ⟨v2, w2, hr, o2, b2⟩ := run_ow (base := W1.heap.size) (w := W1.drew) 43 l (Ow.nil W1.drew _ (Nat.le_refl _)) (HS1.out.later (Below.refl _ _).drew) rfl (by simp; omega)
  rw [List.nil_append] at o2
  have b2' : Below W1.heap.size W1 w2 := (Below.refl _ W1).drew.trans b2
  obtain ⟨va, vc, rfl, _⟩ := o2.sl
  have hlf := leaf_hv ⟨s.toArray⟩ w2 (HK1.out.seq b2') (by rw [str_size]; omega)
  have hbd : ∀ w, (bdI #[(0, str key), (1, .int .i64 seq), (2, .bool mkr), (3, .int .i64 (data.length : Int)), (4, .slice va l.length vc), (5, .agg (hv (leaf s)).toArray)]).run Tryz.prog w = .ok (.agg (ic (itOf ⟨key, seq, mkr, data, l⟩ s) va vc).toArray) w := run_bdI (itOf ⟨key, seq, mkr, data, l⟩ s) va vc
  have HO2 := Hid.mk o2
  have HB2 := Hid.mk b2'
  have HE1 := Hid.mk e1
  have hnd : ∀ ty, (Builtin.append_ #[43, 43] ty #[.slice none 0 0, .slice a l.length c]).run Tryz.prog W1.drew = .ok (.slice va l.length vc) w2 := fun ty => hr
  clear b0 b1 hS e0 e1 o2 b2 b2' hr
  go_enter Tryz.func23, Tryz.ntmps23
  go_wp2_with fail
  rw [← hW1]
  clear hW1
  go_region_held3 (fun w' => Below (w.heap.size + 1) W1 w' ∧ w'.cell? ⟨w.heap.size, 0, none⟩ = some (str key) ∧ w'.cell? ⟨w.heap.size, 1, none⟩ = some (.int .i64 seq) ∧ w'.cell? ⟨w.heap.size, 2, none⟩ = some (.bool mkr) ∧ w'.cell? ⟨w.heap.size, 3, none⟩ = some (str data) ∧ w'.cell? ⟨w.heap.size, 4, none⟩ = some (.slice a l.length c)) (first
    | exact XC.out _ (Below.refl _ _).drew
    | exact XC.out _ (HB2.out.mono (by omega))
    | exact XC.out _ HB3.out
    | exact XC.out _ HB4.out) (first
    | (go_at_call 46; with_reducible refine Calls.mono hlf ?_; rintro e w3 ⟨rfl, b3⟩; have HB3 : Hid (Below (w.heap.size + 1) W1 w3) := ⟨(below_seq HB2.out b3).mono (by omega)⟩; have hst := run_stI2 ((b3.block (w.heap.size + 1) (by have := HB2.out.size; omega)).trans ((HB2.out.block _ (by omega)).trans HE1.out)) rfl (itOf ⟨key, seq, mkr, data, l⟩ s) va vc; have HB4 : Hid (Below (w.heap.size + 1) W1 (w3.setCells (w.heap.size + 1) 0 (ic (itOf ⟨key, seq, mkr, data, l⟩ s) va vc))) := ⟨below_setCells (Nat.le_refl _) _ _ HB3.out⟩)
    | ((with_reducible (refine at_sta rfl ?_)); refine step_run rfl _ _ rfl rfl rfl (hnd _) ?_))
  have HI : Hid (Bi (w3.setCells (w.heap.size + 1) 0 (ic (itOf ⟨key, seq, mkr, data, l⟩ s) va vc)) (w.heap.size + 1) (itOf ⟨key, seq, mkr, data, l⟩ s) va vc) := ⟨Bi.setI ((b3.block (w.heap.size + 1) (by have := HB2.out.size; omega)).trans ((HB2.out.block _ (by omega)).trans HE1.out)) rfl _ _ _⟩
  have HO3 : Hid (Ow w.heap.size (w3.setCells (w.heap.size + 1) 0 (ic (itOf ⟨key, seq, mkr, data, l⟩ s) va vc)) (.slice va l.length vc) l) := ⟨((HO2.out.later b3).keep (by rw [szs]; exact Nat.le_refl _) (fun k hk hkl => hsos (by omega) _ _)).base (by omega)⟩
  have HBw : Hid (Below w.heap.size w (w3.setCells (w.heap.size + 1) 0 (ic (itOf ⟨key, seq, mkr, data, l⟩ s) va vc))) := ⟨HB1.out.trans (HB4.out.mono (by omega))⟩
  go_wp2_with fail
  exact bodyPost_ret (results_cell_row Tryz.results23 _ _ (w.heap.size + 1) 46 _ (0, 0) _ rfl HI.out Tryz.underlying46 rfl (by rw [List.size_toArray, ic_length]; exact infoI)) rfl ⟨va, vc, rfl, HO3.out, HBw.out⟩
end Go.Proofs.YtdfjlmfnkhhnjaaGreatDoor

/- Of: the manifest of a bucket's value. -/
namespace Go.Proofs.YtdfjlmfnkhhnjaaGreatDoor
set_option maxRecDepth 100000
set_option linter.unusedVariables false
set_option linter.unusedSimpArgs false
open Go.RowKit
open Go.Proofs.YtdfjlmfnkhhnjaaGreatDoorH (hv hv_length hv_one hv_eq KIn leaf leaf_hv below_setCells)
attribute [local go_sem ↓] Go.wp_at_zero Go.wp_at_succ bsIe
attribute [local go_sem] run_bsI
/-- the versions that a slice holds -/
structure VIn (w : World) (a : Option Addr) (L : List Vs) : Prop where
  get : ∀ (k : Nat) (v : Vs), L[k]? = some v → ∃ b off ma mc, a = some ⟨b, off, none⟩ ∧ b < w.heap.size ∧ w.cell? ⟨b, off + k * 5, none⟩ = some (str v.key) ∧ w.cell? ⟨b, off + k * 5 + 1, none⟩ = some (.int .i64 v.seq) ∧ w.cell? ⟨b, off + k * 5 + 2, none⟩ = some (.bool v.mkr) ∧ w.cell? ⟨b, off + k * 5 + 3, none⟩ = some (str v.data) ∧ w.cell? ⟨b, off + k * 5 + 4, none⟩ = some (.slice ma v.l.length mc) ∧ Sl w ma mc v.l
theorem VIn.later {w w' : World} {a : Option Addr} {L : List Vs} (h : VIn w a L) (hb : Below w.heap.size w w') : VIn w' a L := by
  refine ⟨fun k v hk => ?_⟩
  obtain ⟨b, off, ma, mc, h1, h2, c0, c1, c2, c3, c4, s⟩ := h.get k v hk
  exact ⟨b, off, ma, mc, h1, Nat.lt_of_lt_of_le h2 hb.size, (hb.cell (p := ⟨b, _, none⟩) h2).trans c0, (hb.cell (p := ⟨b, _, none⟩) h2).trans c1, (hb.cell (p := ⟨b, _, none⟩) h2).trans c2, (hb.cell (p := ⟨b, _, none⟩) h2).trans c3, (hb.cell (p := ⟨b, _, none⟩) h2).trans c4, s.later hb⟩
noncomputable abbrev ofI (L : List Vs) : List It := L.map fun v => itOf v (enc v)
/-- what Of takes -/
def OfR (L : List Vs) (next since : Int) : Prop := L.length ≤ 256 ∧ (∀ v ∈ L, rtE v = 0) ∧ RtM ⟨since, next, ofI L⟩
def OfP (L : List Vs) (next since : Int) (w : World) (e : Ending) (w' : World) : Prop :=
  ((∃ (R : List Ri) (a : Option Addr) (c : Nat), OfR L next since ∧ e = .returned (.tuple #[.agg #[.int .i64 since, .int .i64 next, .slice a R.length c], .int .i64 0]) ∧ R.map (·.1) = ofI L ∧ Fi w.heap.size w' (.slice a R.length c) R) ∨
   (¬ OfR L next since ∧ e = .returned (.tuple #[.agg #[.int .i64 0, .int .i64 0, .slice none 0 0], .int .i64 1]))) ∧ Below w.heap.size w w'
/-- what is kept while a manifest is made -/
structure OK (w W : World) (sn nx : Int) (v : Value) (R : List Ri) : Prop where
  g1 : Bm3 W (w.heap.size + 1) 0 0 (.slice none 0 0)
  bm : Bm3 W (w.heap.size + 1 + 1) sn nx v
  fi : Fi (w.heap.size + 3) W v R
  bel : Below w.heap.size w W
section
variable {w W W' : World} {sn nx : Int} {v v' : Value} {R R' : List Ri}
theorem OK.later (h : OK w W sn nx v R) (hb : Below W.heap.size W W') : OK w W' sn nx v R := ⟨h.g1.later hb, h.bm.later hb, h.fi.later hb, h.bel.trans (hb.mono h.bel.size)⟩
theorem OK.more (h : OK w W sn nx v R) {W2 : World} (hb : Below (w.heap.size + 3) W W2) (hf : Fi (w.heap.size + 3) W2 v' R') : OK w (W2.setCell ⟨w.heap.size + 1 + 1, 2, none⟩ v') sn nx v' R' := by
  have hbm : Bm3 W2 (w.heap.size + 1 + 1) sn nx v := h.bm.oth (hb.block _ (by omega))
  exact ⟨h.g1.oth ((hso _ _ (by omega)).trans (hb.block _ (by omega))), by unfold Bm3; rw [heap_setCell_same _ _ _ _ _ _ hbm]; rfl, hf.oth (by omega) _, (h.bel.trans (hb.mono (by omega))).setCell (p := ⟨w.heap.size + 1 + 1, 2, none⟩) (by show w.heap.size ≤ w.heap.size + 1 + 1; omega) _⟩
theorem OK.fin (h : OK w W sn nx v R) :
    Bm3 (((W.setCell ⟨w.heap.size + 1, 0, none⟩ (.int .i64 sn)).setCell ⟨w.heap.size + 1, 1, none⟩ (.int .i64 nx)).setCell ⟨w.heap.size + 1, 2, none⟩ v) (w.heap.size + 1) sn nx v ∧ Fi (w.heap.size + 3) (((W.setCell ⟨w.heap.size + 1, 0, none⟩ (.int .i64 sn)).setCell ⟨w.heap.size + 1, 1, none⟩ (.int .i64 nx)).setCell ⟨w.heap.size + 1, 2, none⟩ v) v R ∧ Below w.heap.size w (((W.setCell ⟨w.heap.size + 1, 0, none⟩ (.int .i64 sn)).setCell ⟨w.heap.size + 1, 1, none⟩ (.int .i64 nx)).setCell ⟨w.heap.size + 1, 2, none⟩ v) := by
  have e1 : Bm3 (W.setCell ⟨w.heap.size + 1, 0, none⟩ (.int .i64 sn)) (w.heap.size + 1) sn 0 (.slice none 0 0) := by unfold Bm3; rw [heap_setCell_same _ _ _ _ _ _ h.g1]; rfl
  have e2 : Bm3 ((W.setCell ⟨w.heap.size + 1, 0, none⟩ (.int .i64 sn)).setCell ⟨w.heap.size + 1, 1, none⟩ (.int .i64 nx)) (w.heap.size + 1) sn nx (.slice none 0 0) := by unfold Bm3; rw [heap_setCell_same _ _ _ _ _ _ e1]; rfl
  refine ⟨by unfold Bm3; rw [heap_setCell_same _ _ _ _ _ _ e2]; rfl, ((h.fi.oth (by omega) _).oth (by omega) _).oth (by omega) _, ?_⟩
  exact (((h.bel.setCell (p := ⟨w.heap.size + 1, 0, none⟩) (Nat.le_succ _) _).setCell (p := ⟨w.heap.size + 1, 1, none⟩) (Nat.le_succ _) _).setCell (p := ⟨w.heap.size + 1, 2, none⟩) (Nat.le_succ _) _)
end
theorem results_ct2 {fn : Func} {p : Tmp} {ty : TypeId} {t : Tmp} (h : fn.results = #[.cell p ty, .tmp t]) (tmps : Array Value) (P : Program) (w : World) :
    (results fn tmps).run P w = ((asAddr (tmps.getD p undef)).run P w).andThen fun a w₁ => ((loadVar ty a).run P w₁).andThen fun v w₂ => .ok (.tuple #[v, tmps.getD t undef]) w₂ := by
  simp only [results, h]
  simp [Sem.run_bind, Result.andThen]
theorem enc_le {v : Vs} (h : rtE v = 0) : (enc v).length ≤ 1048576 := by have := (enc_len (rt_of h)).2; omega
set_option maxHeartbeats 8000000 in
theorem of_any (L : List Vs) (next since : Int) (w : World) (a : Option Addr) (n cap : Nat) (hn : L.length = n) (hL : VIn w a L) (hK : KIn w) (hl : L.length ≤ 4611686018427387904) (hz : ∀ v ∈ L, v.l.length ≤ 9223372036854775806) :
    Calls Tryz.prog 7 #[.agg #[.int .i64 next, .slice a n cap], .int .i64 since] w (OfP L next since w) := by
  subst hn
  have b0 := (Below.refl w.heap.size w).alloc (Nat.le_refl _) (.cells #[.int .i64 next, .slice a L.length cap] 24)
  have b1 := b0.alloc b0.size (.cells #[.int .i64 0, .int .i64 0, .slice none 0 0] 28)
  have b2 := b1.alloc b1.size (.cells #[.int .i64 since, .int .i64 next, .slice none 0 0] 28)
  have e1 : Bm3 ((w.alloc (.cells #[.int .i64 next, .slice a L.length cap] 24)).alloc (.cells #[.int .i64 0, .int .i64 0, .slice none 0 0] 28)) (w.heap.size + 1) 0 0 (.slice none 0 0) := by
    have := Bm3.new (w.alloc (.cells #[.int .i64 next, .slice a L.length cap] 24)) 0 0 (.slice none 0 0)
    rw [World.size_alloc] at this
    exact this
  have HK0 : Hid (OK w (((w.alloc (.cells #[.int .i64 next, .slice a L.length cap] 24)).alloc (.cells #[.int .i64 0, .int .i64 0, .slice none 0 0] 28)).alloc (.cells #[.int .i64 since, .int .i64 next, .slice none 0 0] 28)) since next (.slice none 0 0) []) := ⟨by
    refine ⟨e1.oth (hao4 _ _ _ (by simp)), ?_, Fi.nil _ _ (by simp), b2⟩
    have := Bm3.new ((w.alloc (.cells #[.int .i64 next, .slice a L.length cap] 24)).alloc (.cells #[.int .i64 0, .int .i64 0, .slice none 0 0] 28)) since next (.slice none 0 0)
    rw [World.size_alloc, World.size_alloc] at this
    exact this⟩
  have HG := Hid.mk e1
  have HB1 := Hid.mk b1
  have HL := Hid.mk hL
  have HK := Hid.mk hK
  have HZ := Hid.mk hz
  clear hL hK b0 b1 b2 e1 hz
  go_enter Tryz.func7, Tryz.ntmps7
  by_cases h256 : L.length ≤ 256
  · have d1 : decide ((L.length : Int) > 256) = false := decide_eq_false (by omega)
    have d2 : decide (256 < (L.length : Int)) = false := decide_eq_false (by omega)
    go_wp2_with fail
    go_loopw [23] (fun i wr => ∃ (k : Nat) (R : List Ri) (ra : Option Addr) (rc : Nat), k ≤ L.length ∧ i = .int .i64 (k : Int) ∧ Hid (R.length = k) ∧ Hid (OK w wr since next (.slice ra R.length rc) R) ∧ Hid (R.map (·.1) = ofI (L.take k) ∧ ∀ v ∈ L.take k, rtE v = 0)) (fun i _ => L.length - (intOf i).toNat)
    case atStart => exact ⟨0, [], none, 0, Nat.zero_le _, rfl, ⟨rfl⟩, HK0, ⟨rfl, fun v h => by simp at h⟩⟩
    case round =>
      obtain ⟨k, R, ra, rc, hk, rfl, hRk, HO, HR⟩ := hrel
      by_cases hlt : k < L.length
      · have d3 : decide ((k : Int) < (L.length : Int)) = true := decide_eq_true (by omega)
        have k2 : (k : Int) < (L.length : Int) := by omega
        have hw1 : wrap64 ((k : Int) + 1) = ((k + 1 : Nat) : Int) := by unfold wrap64; omega
        obtain ⟨v, hv⟩ : ∃ v, L[k]? = some v := ⟨L[k], List.getElem?_eq_getElem hlt⟩
        have hmem := List.mem_of_getElem? hv
        obtain ⟨b, off, ma, mc, hab, hbl, c0, c1, c2, c3, c4, hsl⟩ := (HL.out.later HO.out.bel).get k v hv
        subst hab
        have bx := (Below.refl wr.heap.size wr).alloc (Nat.le_refl _) (.cells #[str v.key, .int .i64 v.seq, .bool v.mkr, str v.data, .slice ma v.l.length mc] 62)
        have HTk : Hid (ofI (L.take (k + 1)) = ofI (L.take k) ++ [itOf v (enc v)]) := ⟨by rw [List.take_add_one, hv]; simp [ofI]⟩
        have HTm : Hid (L.take (k + 1) = L.take k ++ [v]) := ⟨by rw [List.take_add_one, hv]; rfl⟩
        obtain ⟨key, seq, mkr, data, l⟩ := v
        dsimp only at c0 c1 c2 c3 c4 hsl bx
        by_cases hrt : rtE ⟨key, seq, mkr, data, l⟩ = 0
        · have hwr := write_some hrt (wr.alloc (.cells #[str key, .int .i64 seq, .bool mkr, str data, .slice ma l.length mc] 62)) ma l.length mc rfl (hsl.later bx).at'
          dsimp only at hwr
          have HM := Hid.mk hmem
          have HR2 := Hid.mk hrt
          have HS := Hid.mk hsl
          have HX := Hid.mk bx
          have HEl : Hid ((enc ⟨key, seq, mkr, data, l⟩).length ≤ 1048576) := ⟨enc_le hrt⟩
          have HZ2 : Hid (l.length ≤ 1000000000000) := ⟨by have : l.length ≤ 8 := (rt_of hrt).n; omega⟩
          clear hmem hrt hsl bx hv
          have HO' := Hid.mk (HO.out.later HX.out)
          have hVw : (wr.alloc (.cells #[str key, .int .i64 seq, .bool mkr, str data, .slice ma l.length mc] 62)).heap[wr.heap.size]? = some (.cells #[str key, .int .i64 seq, .bool mkr, str data, .slice ma l.length mc] 62 (0, 0)) := heap_alloc_new _ _
          have HV := Hid.mk hVw
          clear hVw
          go_wp2_with fail
          with_reducible refine Calls.mono hwr ?_
          rintro e w1 ⟨rfl, b1⟩
          dsimp only
          have HO1 := Hid.mk (HO'.out.later b1)
          have HV1 : Hid (w1.heap[wr.heap.size]? = some (.cells #[str key, .int .i64 seq, .bool mkr, str data, .slice ma l.length mc] 62 (0, 0))) := ⟨(b1.block _ (by simp)).trans HV.out⟩
          have HS1 := Hid.mk ((HS.out.later HX.out).later b1)
          have HK1 := Hid.mk (HK.out.seq HO1.out.bel)
          clear hwr b1 HX HS HV HO' c0 c1 c2 c3 c4 hbl
          have hl8 := HZ2.out
          have hmeas := L.length
          generalize wr.heap.size = g8 at *
          have hc := itemOf_any ⟨key, seq, mkr, data, l⟩ (enc ⟨key, seq, mkr, data, l⟩) w1.drew ma l.length mc rfl (HS1.out.later (Below.refl _ _).drew) (HK1.out.seq (Below.refl _ _).drew) HEl.out hl8
          dsimp only at hc
          obtain ⟨tx, htx⟩ : ∃ t, Hid (enc ⟨key, seq, mkr, data, l⟩ = t) := ⟨_, ⟨rfl⟩⟩
          rw [htx.out] at HTk hc ⊢
          have hIt : Hid (∀ w', Below w1.drew.heap.size w1.drew w' → OK w w' since next (.slice ra R.length rc) R) := ⟨fun w' h => (HO1.out.later (Below.refl _ _).drew).later h⟩
          obtain ⟨q0, q1, q2⟩ := (HO1.out.later (Below.refl _ _).drew).bm.cells
          have s0 : w1.drew.cell? ⟨g8, 0, none⟩ = some (str key) := by rw [cell_of_row (w := w1.drew) _ _ _ _ _ HV1.out]; rfl
          have s1 : w1.drew.cell? ⟨g8, 1, none⟩ = some (.int .i64 seq) := by rw [cell_of_row (w := w1.drew) _ _ _ _ _ HV1.out]; rfl
          have s2 : w1.drew.cell? ⟨g8, 2, none⟩ = some (.bool mkr) := by rw [cell_of_row (w := w1.drew) _ _ _ _ _ HV1.out]; rfl
          have s3 : w1.drew.cell? ⟨g8, 3, none⟩ = some (str data) := by rw [cell_of_row (w := w1.drew) _ _ _ _ _ HV1.out]; rfl
          have s4 : w1.drew.cell? ⟨g8, 4, none⟩ = some (.slice ma l.length mc) := by rw [cell_of_row (w := w1.drew) _ _ _ _ _ HV1.out]; rfl
          have hlow : Hid (∀ (i : Nat) (p : Ri), R[i]? = some p → ∀ b, p.mv.ownBlock = some b → b < w1.heap.size) := ⟨fun i p hp b hb => (HO1.out.fi.low (.inr ⟨i, p, hp, hb⟩)).2⟩
          have HE : Hid (∀ (w2 : World) (ia : Option Addr) (ic1 : Nat), Below w1.drew.heap.size w1.drew w2 → Ow w1.drew.heap.size w2 (.slice ia l.length ic1) l → ∃ g' c' w3, (∀ ty, (Builtin.append_ #[26, 26] ty #[.slice ra R.length rc, .slice (some ⟨w2.heap.size, 0, none⟩) 1 1]).run Tryz.prog (w2.alloc (.cells (ic (itOf ⟨key, seq, mkr, data, l⟩ tx) ia ic1).toArray 46)) = .ok (.slice (some ⟨g', 0, none⟩) (R.length + 1) c') w3) ∧ (w3.cell? ⟨w.heap.size + 1 + 1, 2, none⟩ = some (.slice ra R.length rc) ∧ w3.frozen? ⟨w.heap.size + 1 + 1, 2, none⟩ = false) ∧ Hid (OK w (w3.setCell ⟨w.heap.size + 1 + 1, 2, none⟩ (.slice (some ⟨g', 0, none⟩) (R.length + 1) c')) since next (.slice (some ⟨g', 0, none⟩) (R.length + 1) c') (R ++ [(itOf ⟨key, seq, mkr, data, l⟩ tx, ia, ic1)]))) := ⟨fun w2 ia ic1 hp how => by
            have K8 := hIt.out w2 hp
            have how : Ow w1.heap.size w2 (Ri.mv (itOf ⟨key, seq, mkr, data, l⟩ tx, ia, ic1)) l := how
            obtain ⟨g', c', w3, hr, hf, hb2, _⟩ := run_ri 26 (itOf ⟨key, seq, mkr, data, l⟩ tx, ia, ic1) K8.fi hlow.out HO1.out.fi.le how (by have := hRk.out; omega)
            have hbm : Bm3 w3 (w.heap.size + 1 + 1) since next (.slice ra R.length rc) := K8.bm.oth (hb2.block _ (by omega))
            exact ⟨g', c', w3, fun ty => hr, ⟨hbm.cells.2.2, hbm.fz 2⟩, ⟨K8.more hb2 hf⟩⟩⟩
          have HR' := HR
          clear HR HL HK HZ HK0 HG HB1 HV1 HS1 HK1
          go_wp2_with fail
          go_region_law (first
            | ((first | ((with_reducible (refine at_stp rfl ?_)); go_simp) | skip); go_at_call 23; with_reducible refine Calls.mono hc ?_; rintro e w2 ⟨ia, ic1, rfl, iow, ip⟩; have e2 := (hIt.out w2 ip).bm.cells.2.2; have e3 := fun o => (((hIt.out w2 ip).bm.later ((Below.refl _ w2).alloc (Nat.le_refl _) o)).cells).2.2; obtain ⟨g', c', w3, hr, ⟨st1, st2⟩, HF⟩ := HE.out w2 ia ic1 ip iow)
            | ((with_reducible (refine at_sta rfl ?_)); refine step_run rfl _ _ rfl rfl rfl (hr _) ?_))
          all_goals (
            clear st1 st2
            go_wp2_with fail
            refine ⟨⟨k + 1, R ++ [(itOf ⟨key, seq, mkr, data, l⟩ tx, ia, ic1)], _, _, hlt, by first | (rw [hw1]; done) | rfl | go_num, ⟨by simp [hRk.out]⟩, ⟨by rw [List.length_append]; exact HF.out⟩, ⟨by rw [List.map_append, HR'.out.1, HTk.out]; rfl, ?_⟩⟩, by first | (rw [hw1]; exact Nat.sub_lt_sub_left hlt (Nat.lt_succ_self k)) | (simp [intOf]; omega)⟩
            intro x hx
            rw [HTm.out] at hx
            rcases List.mem_append.1 hx with q | q
            · exact HR'.out.2 x q
            · simp at q; rw [q]; exact HR2.out)
        · have hwr := write_none hrt (wr.alloc (.cells #[str key, .int .i64 seq, .bool mkr, str data, .slice ma l.length mc] 62)) ma l.length mc rfl (hsl.later bx).at' (HZ.out _ hmem)
          dsimp only at hwr
          have HN : Hid (¬ OfR L next since) := ⟨fun q => hrt (q.2.1 _ hmem)⟩
          have HX := Hid.mk bx
          have d4 : (rtE ⟨key, seq, mkr, data, l⟩ == 0) = false := beq_eq_false_iff_ne.2 hrt
          have d5 : (rtE ⟨key, seq, mkr, data, l⟩ != 0) = true := by rw [bne, d4]; rfl
          generalize rtE ⟨key, seq, mkr, data, l⟩ = er at *
          have HO' := Hid.mk (HO.out.later HX.out)
          clear hmem hrt hsl bx hv HTk HTm
          go_wp2_with fail
          with_reducible refine Calls.mono hwr ?_
          rintro e w1 ⟨rfl, b1⟩
          dsimp only
          have HO1 := Hid.mk (HO'.out.later b1)
          obtain ⟨t0, t1, t2⟩ := HO1.out.g1.cells
          have f0 := HO1.out.g1.fz 0
          have f1 := HO1.out.g1.fz 1
          have f2 := HO1.out.g1.fz 2
          clear hwr b1 HX HO' c0 c1 c2 c3 c4 hbl HO HL HK HZ HK0 HG HB1
          go_wp2_with fail
          have hg1 := HO1.out.g1.set3 0 0 (.slice none 0 0)
          have hb1 := below3 (r := w.heap.size + 1) HO1.out.bel (Nat.le_succ _) (.int .i64 0) (.int .i64 0) (.slice none 0 0)
          generalize ((w1.setCell ⟨w.heap.size + 1, 0, none⟩ (.int .i64 0)).setCell ⟨w.heap.size + 1, 1, none⟩ (.int .i64 0)).setCell ⟨w.heap.size + 1, 2, none⟩ (.slice none 0 0) = W8 at *
          obtain ⟨g0, g1, g2⟩ := hg1.cells
          refine bodyPost_ret (v := .tuple #[.agg #[.int .i64 0, .int .i64 0, .slice none 0 0], .int .i64 1]) ?_ rfl ⟨.inr ⟨HN.out, rfl⟩, hb1⟩
          rw [results_ct2 rfl]
          go_simp
      · obtain rfl : k = L.length := Nat.le_antisymm hk (Nat.le_of_not_lt hlt)
        have d3 : decide ((L.length : Int) < (L.length : Int)) = false := decide_eq_false (fun q => Int.lt_irrefl _ q)
        have HR1 : Hid (R.map (·.1) = ofI L ∧ ∀ v ∈ L, rtE v = 0) := ⟨by have := HR.out; rwa [List.take_length] at this⟩
        have HLn : Hid ((R.map (·.1)).length = R.length) := ⟨List.length_map _⟩
        obtain ⟨q0, q1, q2⟩ := HO.out.bm.cells
        have hir := isRight_any ⟨since, next, R.map (·.1)⟩ wr ra rc HO.out.fi.it (by
          intro x hx
          have hx : x ∈ R.map (·.1) := hx
          rw [HR1.out.1] at hx
          obtain ⟨v, hv, rfl⟩ := List.mem_map.1 hx
          have := (rt_of (HR1.out.2 v hv)).n
          show v.l.length ≤ _
          omega) (by
          have := hRk.out
          show (R.map (·.1)).length ≤ _
          rw [List.length_map]; omega)
        dsimp only at hir
        rw [HLn.out] at hir
        clear HK0 HG HB1 HL HK HZ HR
        go_wp2_with fail
        with_reducible refine Calls.mono hir ?_
        rintro e w1 ⟨t, rfl, ht, b1⟩
        dsimp only
        have HO1 := Hid.mk (HO.out.later b1)
        have Ht : Hid (t = true ↔ OfR L next since) := ⟨ht.trans ⟨fun q => ⟨h256, HR1.out.2, by rw [← HR1.out.1]; exact q⟩, fun q => by rw [HR1.out.1]; exact q.2.2⟩⟩
        clear hir q0 q1 q2 b1 ht
        obtain ⟨t0, t1, t2⟩ := HO1.out.g1.cells
        obtain ⟨q0, q1, q2⟩ := HO1.out.bm.cells
        have f0 := HO1.out.g1.fz 0
        have f1 := HO1.out.g1.fz 1
        have f2 := HO1.out.g1.fz 2
        have hb1 := below3 (r := w.heap.size + 1) HO1.out.bel (Nat.le_succ _) (.int .i64 0) (.int .i64 0) (.slice none 0 0)
        cases t with
        | false =>
          have HN : Hid (¬ OfR L next since) := ⟨fun q => by have := Ht.out.2 q; cases this⟩
          go_wp2_with fail
          have hg1 := HO1.out.g1.set3 0 0 (.slice none 0 0)
          generalize ((w1.setCell ⟨w.heap.size + 1, 0, none⟩ (.int .i64 0)).setCell ⟨w.heap.size + 1, 1, none⟩ (.int .i64 0)).setCell ⟨w.heap.size + 1, 2, none⟩ (.slice none 0 0) = W8 at *
          obtain ⟨g0, g1, g2⟩ := hg1.cells
          refine bodyPost_ret (v := .tuple #[.agg #[.int .i64 0, .int .i64 0, .slice none 0 0], .int .i64 1]) ?_ rfl ⟨.inr ⟨HN.out, rfl⟩, hb1⟩
          rw [results_ct2 rfl]
          go_simp
        | true =>
          have HY : Hid (OfR L next since) := ⟨Ht.out.1 rfl⟩
          have hfin := HO1.out.fin
          clear hb1
          go_wp2_with fail
          generalize ((w1.setCell ⟨w.heap.size + 1, 0, none⟩ (.int .i64 since)).setCell ⟨w.heap.size + 1, 1, none⟩ (.int .i64 next)).setCell ⟨w.heap.size + 1, 2, none⟩ (.slice ra R.length rc) = W8 at *
          obtain ⟨g0, g1, g2⟩ := hfin.1.cells
          refine bodyPost_ret (v := .tuple #[.agg #[.int .i64 since, .int .i64 next, .slice ra R.length rc], .int .i64 0]) ?_ rfl ⟨.inl ⟨R, ra, rc, HY.out, rfl, HR1.out.1, hfin.2.1.base (by omega)⟩, hfin.2.2⟩
          rw [results_ct2 rfl]
          go_simp
  · have d1 : decide ((L.length : Int) > 256) = true := decide_eq_true (by omega)
    have d2 : decide (256 < (L.length : Int)) = true := decide_eq_true (by omega)
    have HN : Hid (¬ OfR L next since) := ⟨fun q => h256 q.1⟩
    obtain ⟨t0, t1, t2⟩ := HG.out.cells
    go_wp2_with fail
    refine bodyPost_ret (v := .tuple #[.agg #[.int .i64 0, .int .i64 0, .slice none 0 0], .int .i64 1]) ?_ rfl ⟨.inr ⟨HN.out, rfl⟩, HB1.out⟩
    rw [results_ct2 rfl]
    go_simp
end Go.Proofs.YtdfjlmfnkhhnjaaGreatDoor
