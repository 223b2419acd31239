/- Layer 22: Parse. -/
import Derived.Test.YtgbkloihclbimaaDoorWo
namespace Go.Proofs.YtgbkloihclbimaaDoor
set_option maxRecDepth 100000
set_option linter.unusedVariables false
set_option linter.unusedSimpArgs false
open Go.RowKit Go.Shelf
attribute [local go_sem] Oper.semAt_some
attribute [local go_sem ↓] ldCe stCe
theorem Fc.base {b b' : Nat} {w : World} {v : Value} {R : List Cr} (h : Fc b w v R) (hb : b' ≤ b) : Fc b' w v R := ⟨own_base h.own hb, Nat.le_trans hb h.le, fun r hr => own_base (h.ow r hr) hb, fun r hr => own_base (h.oi r hr) hb, h.pm, h.pk⟩
/-- behind k lines -/
structure PJ (t : By) (w : World) (L0 base : Nat) (k : Nat) (W : World) (X : Bs) : Prop where
  bel : Below w.heap.size w W
  c0 : W.heap[w.heap.size]? = some (.cells #[.slice none 0 0] 23 (0, 0))
  c1 : W.heap[w.heap.size + 1]? = some (.cells #[.int .i64 0] 25 (0, 0))
  ex : ∃ va vc R, W.heap[L0]? = some (.cells #[.slice va R.length vc] 23 (0, 0)) ∧ Fc base W (.slice va R.length vc) R ∧ (∀ b, X b → ¬ Blk (.slice va R.length vc) R b) ∧ R.length ≤ k ∧ cmds (lnl t) = (cmds ((lnl t).drop k)).map (R.map (·.c) ++ ·)
  x : ∀ b, X b → L0 < b ∧ b < W.heap.size
  l0 : w.heap.size + 1 < L0
  bs : L0 < base
/-- a line said nothing -/
structure PX (t : By) (w : World) (L0 : Nat) (k : Nat) (W : World) (X : Bs) : Prop where
  bel : Below w.heap.size w W
  c0 : W.heap[w.heap.size]? = some (.cells #[.slice none 0 0] 23 (0, 0))
  c1 : W.heap[w.heap.size + 1]? = some (.cells #[.int .i64 110] 25 (0, 0))
  no : cmds (lnl t) = none
  x : ∀ b, X b → L0 < b ∧ b < W.heap.size
  l0 : w.heap.size + 1 < L0
  sz : L0 < W.heap.size
theorem PJ.abid (t : By) (w : World) (L0 base : Nat) : Abid (PJ t w L0 base) := by
  intro k W X W' X' h ho hx
  obtain ⟨va, vc, R, e1, e2, e3, e4, e5⟩ := h.ex
  have hl0 := h.l0
  have hlt := lt_of_block e1
  refine ⟨ho.bel h.bel (fun b q => by have := h.x b q; omega), (ho.block _ (lt_of_block h.c0) (fun q => by have := h.x _ q; omega)).trans h.c0, (ho.block _ (lt_of_block h.c1) (fun q => by have := h.x _ q; omega)).trans h.c1, ⟨va, vc, R, (ho.block _ hlt (fun q => by have := h.x _ q; omega)).trans e1, e2.oth ho e3, fun b hb q => ?_, e4, e5⟩, fun b hb => ?_, h.l0, h.bs⟩
  · rcases hx b hb with z | z
    · exact e3 b z q
    · have := (e2.lt q).2; omega
  · rcases hx b hb with q | q
    · have := h.x b q; have := ho.size; omega
    · omega
theorem PX.abid (t : By) (w : World) (L0 : Nat) : Abid (PX t w L0) := by
  intro k W X W' X' h ho hx
  have hl0 := h.l0
  refine ⟨ho.bel h.bel (fun b q => by have := h.x b q; omega), (ho.block _ (lt_of_block h.c0) (fun q => by have := h.x _ q; omega)).trans h.c0, (ho.block _ (lt_of_block h.c1) (fun q => by have := h.x _ q; omega)).trans h.c1, h.no, fun b hb => ?_, h.l0, Nat.lt_of_lt_of_le h.sz ho.size⟩
  have := h.sz
  rcases hx b hb with q | q
  · have := h.x b q; have := ho.size; omega
  · omega
theorem cmds_says {l : By} {ls : List By} (h : says0 l = true) : cmds (l :: ls) = cmds ls := by
  conv => lhs; unfold cmds
  rw [if_pos h]
theorem cmds_none {l : By} {ls : List By} (h : says0 l = false) (h2 : plF l = none) : cmds (l :: ls) = none := by
  unfold cmds
  rw [h, if_neg (by decide), h2]
theorem cmds_some {l : By} {ls : List By} {c : Cm} (h : says0 l = false) (h2 : plF l = some c) : cmds (l :: ls) = (cmds ls).map (c :: ·) := by
  conv => lhs; unfold cmds
  rw [h, if_neg (by decide), h2]
theorem drop_line {t p : By} {k : Nat} (h : (lnsE t)[k]? = some p) : (lnl t).drop k = wo p :: (lnl t).drop (k + 1) := by
  rw [lnl_eq]
  have hk := (List.getElem?_eq_some_iff.1 h).1
  have e : ((lnsE t).map wo)[k]? = some (wo p) := by rw [List.getElem?_map, h]; rfl
  obtain ⟨hk2, e2⟩ := List.getElem?_eq_some_iff.1 e
  rw [← e2, List.getElem_cons_drop]
/-- what Parse answers -/
def PaP (t : By) (w : World) (e : Ending) (w' : World) : Prop := Below w.heap.size w w' ∧ ∃ va vc R, e = .returned (.tuple #[.slice va R.length vc, .int .i64 (prsE t)]) ∧ Fc w.heap.size w' (.slice va R.length vc) R ∧ R.map (·.c) = prsL t
theorem results_cc {fn : Func} {p q : Tmp} {ty tq : TypeId} (h : fn.results = #[.cell p ty, .cell q tq]) (tmps : Array Value) (P : Program) (w : World) :
    (results fn tmps).run P w = ((asAddr (tmps.getD p undef)).run P w).andThen fun a w₁ => ((loadVar ty a).run P w₁).andThen fun v w₂ => ((asAddr (tmps.getD q undef)).run P w₂).andThen fun b w₃ => ((loadVar tq b).run P w₃).andThen fun u w₄ => .ok (.tuple #[v, u]) w₄ := by
  simp only [results, h]
  simp [Sem.run_bind, Result.andThen]
attribute [-go_sem] Go.Builtin.append_
set_option maxHeartbeats 4000000 in
theorem parse_in (t : By) (ht : t.length ≤ 4611686018427387904) (w : World) (hS : SG w) (hT : TB w) (hE : EG w) :
    CallsIn Fence.wide 5 Tryd.prog 13 #[str t] w (PaP t w) := by
  have b1 := (Below.refl w.heap.size w).alloc (Nat.le_refl _) (.cells #[.slice none 0 0] 23)
  have x0 : (w.alloc (.cells #[.slice none 0 0] 23)).heap[w.heap.size]? = some (.cells #[.slice none 0 0] 23 (0, 0)) := heap_alloc_new _ _
  obtain ⟨w2, hw2⟩ : ∃ w2, (w.alloc (.cells #[.slice none 0 0] 23)).alloc (.cells #[.int .i64 0] 25) = w2 := ⟨_, rfl⟩
  have b2 : Below w.heap.size w w2 := by rw [← hw2]; exact b1.alloc b1.size _
  have y0 : w2.heap[w.heap.size]? = some (.cells #[.slice none 0 0] 23 (0, 0)) := by rw [← hw2, heap_alloc_old _ _ _ (by simp)]; exact x0
  have y1 : w2.heap[w.heap.size + 1]? = some (.cells #[.int .i64 0] 25 (0, 0)) := by
    have := heap_alloc_new (w.alloc (.cells #[.slice none 0 0] 23)) (.cells #[.int .i64 0] 25)
    rw [World.size_alloc] at this; rw [← hw2]; exact this
  clear b1 x0
  refine callsIn_of_wp_marks Tryd.func13 rfl trivial ?_ rfl
  simp only [Tryd.ntmps13, List.size_toArray, List.length_cons, List.length_nil, Nat.reduceAdd, Nat.reduceSub, Array.replicate_succ, Array.replicate_zero, List.push_toArray, List.append_toArray, List.nil_append, List.cons_append]
  gi_wp2
  refine ⟨trivial, (callsIn_wide.2 (isLong_any t ht w2)).mono ?_⟩
  rintro e w3 ⟨rfl, b3⟩
  have hl2 := lt_of_block y1
  have B3 := b2.trans (b3.mono b2.size)
  have z0 : w3.heap[w.heap.size]? = some (.cells #[.slice none 0 0] 23 (0, 0)) := by rw [b3.block _ (by omega)]; exact y0
  have z1 : w3.heap[w.heap.size + 1]? = some (.cells #[.int .i64 0] 25 (0, 0)) := by rw [b3.block _ hl2]; exact y1
  clear b3 y0 y1 hw2 b2
  obtain ⟨q0, qf0⟩ := one_cell z0
  obtain ⟨q1, qf1⟩ := one_cell z1
  have hl3 := lt_of_block z1
  cases hlong : isLongF t with
  | true =>
    have HE : Hid (prsE t = 3) := ⟨by unfold prsE; rw [hlong, if_pos rfl]⟩
    have HL : Hid (prsL t = []) := ⟨by unfold prsL; rw [hlong, if_pos rfl]⟩
    have n0 : ((w3.setCell ⟨w.heap.size, 0, none⟩ (.slice none 0 0)).setCell ⟨w.heap.size + 1, 0, none⟩ (.int .i64 3)).heap[w.heap.size]? = some (.cells #[.slice none 0 0] 23 (0, 0)) := by
      rw [hso _ ⟨w.heap.size + 1, 0, none⟩ (k := w.heap.size) (show w.heap.size ≠ w.heap.size + 1 by omega)]; exact one_set z0 _
    have n1 : ((w3.setCell ⟨w.heap.size, 0, none⟩ (.slice none 0 0)).setCell ⟨w.heap.size + 1, 0, none⟩ (.int .i64 3)).heap[w.heap.size + 1]? = some (.cells #[.int .i64 3] 25 (0, 0)) := one_set (by rw [hso _ ⟨w.heap.size, 0, none⟩ (k := w.heap.size + 1) (show w.heap.size + 1 ≠ w.heap.size by omega)]; exact z1) _
    have hBf := (B3.setCell (p := ⟨w.heap.size, 0, none⟩) (Nat.le_refl _) (.slice none 0 0)).setCell (p := ⟨w.heap.size + 1, 0, none⟩) (Nat.le_succ _) (.int .i64 3)
    clear hlong
    gi_wp2
    have g0 := (one_cell n0).1
    have g1 := (one_cell n1).1
    generalize (w3.setCell ⟨w.heap.size, 0, none⟩ (.slice none 0 0)).setCell ⟨w.heap.size + 1, 0, none⟩ (.int .i64 3) = W9 at *
    refine ⟨.tuple #[.slice none 0 0, .int .i64 3], ?_, hBf, none, 0, [], by rw [HE.out]; rfl, Fc.nil _ _ hBf.size, by rw [HL.out]; rfl⟩
    rw [results_cc rfl]
    go_simp
  | false =>
    have HTl : Hid (t.length ≤ 65536) := ⟨by
      unfold isLongF at hlong
      simp at hlong
      omega⟩
    have HE : Hid (prsE t = if (cmds (lnl t)).isNone then 110 else 0) := ⟨by unfold prsE; rw [hlong, if_neg (by decide)]⟩
    have HL : Hid (prsL t = (cmds (lnl t)).getD []) := ⟨by unfold prsL; rw [hlong, if_neg (by decide)]⟩
    clear hlong
    gi_wp2
    obtain ⟨w4, hw4⟩ : ∃ w4, w3.alloc (.cells #[.slice none 0 0] 23) = w4 := ⟨_, rfl⟩
    have b4 : Below w3.heap.size w3 w4 := by rw [← hw4]; exact (Below.refl _ _).alloc (Nat.le_refl _) _
    have y4 : w4.heap[w3.heap.size]? = some (.cells #[.slice none 0 0] 23 (0, 0)) := by rw [← hw4]; exact heap_alloc_new _ _
    rw [hw4]
    clear hw4
    refine ⟨trivial, (callsIn_wide.2 (lines_any t w4)).mono ?_⟩
    rintro e w5 ⟨rfl, rfl⟩
    gi_wp2
    have B4 := below_seq B3 b4
    have b5 := (Below.refl w4.heap.size w4).alloc (Nat.le_refl _) (.cells #[str t] 9)
    have hl4 := lt_of_block y4
    have hsz5 : (w4.alloc (.cells #[str t] 9)).heap.size = w4.heap.size + 1 := by simp
    have h0 : PJ t w w3.heap.size (w4.heap.size + 1) 0 (w4.alloc (.cells #[str t] 9)) (fun b => b = w4.heap.size) := ⟨below_seq B4 b5, by rw [b5.block _ (by omega), b4.block _ (by omega)]; exact z0, by rw [b5.block _ (by omega), b4.block _ (by omega)]; exact z1, ⟨none, 0, [], by rw [b5.block _ hl4]; exact y4, Fc.nil _ _ (by rw [hsz5]; omega), fun b _ q => (by rcases q with q | ⟨r, hr, _⟩; cases q; cases hr), Nat.le_refl _, by simp⟩, fun b e => by rw [e, hsz5]; omega, by omega, by omega⟩
    have hlw := lns_le _ t (Nat.le_refl _)
    have hen := enters_of (P := Tryd.prog) Tryd.func33 (by kernel_rfl) rfl
    have htel := lines1_tells t w4.heap.size (by have := HTl.out; omega)
    have hnew := heap_alloc_new w4 (.cells #[str t] 9)
    have hX0 : ∀ b, (fun b => b = w4.heap.size) b → b < (w4.alloc (.cells #[str t] 9)).heap.size := fun b e => by rw [show b = w4.heap.size from e, hsz5]; omega
    have hS0 : ∀ W', Below (w4.alloc (.cells #[str t] 9)).heap.size (w4.alloc (.cells #[str t] 9)) W' → (fun W : World => W.heap[w4.heap.size]? = some (.cells #[str t] 9 (0, 0))) W' := fun W' hb => (hb.block _ (by rw [hsz5]; omega)).trans hnew
    clear hsz5 z0 z1 q0 q1 qf0 qf1 y4 b4 b5
    refine wp_tellsS rfl hen htel rfl hX0 hS0 (PJ t w w3.heap.size (w4.heap.size + 1)) (PX t w w3.heap.size) (PJ.abid t w _ _) (PX.abid t w _) h0 (fun p => { tmps := #[str t, undef, .pointer (some ⟨w.heap.size, 0, none⟩), .pointer (some ⟨w.heap.size + 1, 0, none⟩), .pointer (some ⟨w3.heap.size, 0, none⟩), str p, undef, undef, str t, .bool false, str t, .func (.func 33) #[] #[.pointer (some ⟨w4.heap.size, 0, none⟩)], str p, undef, undef, undef, undef, undef, undef, undef, undef, undef, undef, undef, undef, undef, undef, undef, undef], defers := [] }) ?assign ?body ?done ?stop
    case assign =>
      intro l1 p W3 K3 hK3
      gi_wp2
      exact hK3
    case body =>
      rintro l1 k p W X hp hJ
      have hmem := List.mem_of_getElem? hp
      have hpl := hlw.2 p hmem
      have hk := (List.getElem?_eq_some_iff.1 hp).1
      have hdl := drop_line hp
      have hwe := withoutEnd_any p (by have := HTl.out; omega) W
      have hwl : (wo p).length ≤ 100000000 := by
        have h1 := HTl.out
        have h2 : (wo p).length ≤ p.length := by unfold wo Lib.trimSuffix; split <;> simp
        omega
      generalize wo p = z at *
      have hsn := saysNothing_any z W
      have hl0 := hJ.l0
      have hbs := hJ.bs
      cases hsay : says0 z with
      | true =>
        rw [hsay] at hsn
        have HX : Hid (PJ t w w3.heap.size (w4.heap.size + 1) (k + 1) W X ∧ Stay X W W) := ⟨by
          obtain ⟨va, vc, R, e1, e2, e3, e4, e5⟩ := hJ.ex
          refine ⟨⟨hJ.bel, hJ.c0, hJ.c1, ⟨va, vc, R, e1, e2, e3, by omega, ?_⟩, hJ.x, hJ.l0, hJ.bs⟩, fun b _ _ => rfl⟩
          rw [e5, hdl, cmds_says hsay]⟩
        clear hJ hdl hsay
        gi_wp2
        refine ⟨trivial, (CallsIn.inRound l1 (callsIn_wide.2 hwe)).mono ?_⟩
        rintro e W ⟨rfl, rfl⟩
        gi_wp2
        refine ⟨trivial, (CallsIn.inRound l1 (callsIn_wide.2 hsn)).mono ?_⟩
        rintro e W ⟨rfl, rfl⟩
        gi_wp2
        exact HX.out
      | false =>
        rw [hsay] at hsn
        have hps := parseLine_any z hwl W (hS.below hJ.bel) (hT.below hJ.bel) (hE.below hJ.bel)
        have hWs : w3.heap.size < W.heap.size := by
          obtain ⟨va, vc, R, e1, _⟩ := hJ.ex
          exact lt_of_block e1
        gi_wp2
        refine ⟨trivial, (CallsIn.inRound l1 (callsIn_wide.2 hwe)).mono ?_⟩
        rintro e W ⟨rfl, rfl⟩
        gi_wp2
        refine ⟨trivial, (CallsIn.inRound l1 (callsIn_wide.2 hsn)).mono ?_⟩
        rintro e W ⟨rfl, rfl⟩
        gi_wp2
        refine ⟨trivial, (CallsIn.inRound l1 (callsIn_wide.2 hps)).mono ?_⟩
        rintro e W1 ⟨hb1, hm⟩
        clear hwe hsn hps
        cases hpl2 : plF z with
        | none =>
          rw [hpl2] at hm
          subst hm
          have hst : (stC (.pointer (some ⟨W1.heap.size, 0, none⟩)) (cV (cm0 0 0) none 0 none 0)).run Tryd.prog (W1.alloc (.cells zC 36)) = .ok () (W1.alloc (.cells (ccs (cm0 0 0) none 0 none 0) 36)) := run_stC W1 (cm0 0 0) none 0 none 0
          have hb2 := hb1.alloc hb1.size (.cells (ccs (cm0 0 0) none 0 none 0) 36)
          have HX : Hid (∀ W2, Below W.heap.size W W2 → (W2.cell? ⟨w.heap.size, 0, none⟩ = some (.slice none 0 0) ∧ W2.frozen? ⟨w.heap.size, 0, none⟩ = false) ∧ (W2.cell? ⟨w.heap.size + 1, 0, none⟩ = some (.int .i64 0) ∧ W2.frozen? ⟨w.heap.size + 1, 0, none⟩ = false) ∧ PX t w w3.heap.size k ((W2.setCell ⟨w.heap.size, 0, none⟩ (.slice none 0 0)).setCell ⟨w.heap.size + 1, 0, none⟩ (.int .i64 110)) X ∧ Stay X W ((W2.setCell ⟨w.heap.size, 0, none⟩ (.slice none 0 0)).setCell ⟨w.heap.size + 1, 0, none⟩ (.int .i64 110))) := ⟨fun W2 hb => by
            have m0 : W2.heap[w.heap.size]? = some (.cells #[.slice none 0 0] 23 (0, 0)) := by rw [hb.block _ (lt_of_block hJ.c0)]; exact hJ.c0
            have m1 : W2.heap[w.heap.size + 1]? = some (.cells #[.int .i64 0] 25 (0, 0)) := by rw [hb.block _ (lt_of_block hJ.c1)]; exact hJ.c1
            refine ⟨one_cell m0, one_cell m1, ⟨?_, ?_, ?_, ?_, fun b q => ?_, hl0, ?_⟩, fun b hb2 hlt => ?_⟩
            · exact ((below_seq hJ.bel hb).setCell (p := ⟨w.heap.size, 0, none⟩) (Nat.le_refl _) (.slice none 0 0)).setCell (p := ⟨w.heap.size + 1, 0, none⟩) (Nat.le_succ _) (.int .i64 110)
            · rw [hso _ ⟨w.heap.size + 1, 0, none⟩ (k := w.heap.size) (show w.heap.size ≠ w.heap.size + 1 by omega)]; exact one_set m0 _
            · exact one_set (by rw [hso _ ⟨w.heap.size, 0, none⟩ (k := w.heap.size + 1) (show w.heap.size + 1 ≠ w.heap.size by omega)]; exact m1) _
            · obtain ⟨va, vc, R, e1, e2, e3, e4, e5⟩ := hJ.ex
              rw [e5, hdl, cmds_none hsay hpl2]; rfl
            · have := hJ.x b q; have := hb.size; simp; omega
            · have := hb.size; simp; omega
            · have := hJ.x b hb2
              rw [hso _ ⟨w.heap.size + 1, 0, none⟩ (k := b) (show b ≠ w.heap.size + 1 by omega), hso _ ⟨w.heap.size, 0, none⟩ (k := b) (show b ≠ w.heap.size by omega)]
              exact hb.block b hlt⟩
          obtain ⟨⟨g0, gf0⟩, ⟨g1, gf1⟩, HY⟩ := HX.out _ hb2
          have HY := Hid.mk HY
          clear HX hJ hb2 hdl hsay hpl2
          gi_wp2
          exact HY.out
        | some c =>
          rw [hpl2] at hm
          obtain ⟨ma, mc, ka, kc, rfl, hro⟩ := hm
          have hst : (stC (.pointer (some ⟨W1.heap.size, 0, none⟩)) (cV c ma mc ka kc)).run Tryd.prog (W1.alloc (.cells zC 36)) = .ok () (W1.alloc (.cells (ccs c ma mc ka kc) 36)) := run_stC W1 c ma mc ka kc
          obtain ⟨va, vc, R, e1, e2, e3, e4, e5⟩ := hJ.ex
          have hb2 := (Below.refl W1.heap.size W1).alloc (Nat.le_refl _) (.cells (ccs c ma mc ka kc) 36)
          have hB2 := below_seq hb1 hb2
          have hbc : Bc (W1.alloc (.cells (ccs c ma mc ka kc) 36)) W1.heap.size c ma mc ka kc := heap_alloc_new _ _
          have hld := run_ldC hbc.range
          have f2 := e2.later hB2
          have hro2 : RowsOf W.heap.size (W1.alloc (.cells (ccs c ma mc ka kc) 36)) c ma mc ka kc := ⟨hro.ow.alloc _, hro.oi.alloc _⟩
          have m0 : (W1.alloc (.cells (ccs c ma mc ka kc) 36)).heap[w3.heap.size]? = some (.cells #[.slice va R.length vc] 23 (0, 0)) := by rw [hB2.block _ hWs]; exact e1
          obtain ⟨va', vc', W3, hr, hF, hBl, hkp, hob, hsz⟩ := run_cs ⟨c, ma, mc, ka, kc⟩ f2 (by have := HTl.out; have := hlw.1; omega) e2.le hro2 (fun b q => (e2.lt q).2)
          dsimp only at hr
          have hr2 : (Builtin.append_ #[23, 23] 23 #[.slice va R.length vc, .slice (some ⟨W1.heap.size + 1, 0, none⟩) 1 1]).run Tryd.prog ((W1.alloc (.cells (ccs c ma mc ka kc) 36)).alloc (.cells #[.int .i64 c.kind, .int .i64 c.sectors, .int .i64 c.size, .int .i64 c.st.kind, str c.st.bucket, str c.st.key, str c.st.data, .slice ma c.st.mt.length mc, .int .i64 c.st.seq, .int .i64 c.st.n, .slice ka c.st.kept.length kc, str c.bucket] 36)) = .ok (.slice va' (R.length + 1) vc') W3 := by
            have := hr 23
            rw [World.size_alloc] at this
            exact this
          clear hr
          obtain ⟨g0, gf0⟩ := one_cell m0
          have hnb : ∀ b, b < w4.heap.size + 1 → (Value.slice va R.length vc).ownBlock ≠ some b := fun b hb q => by have := (e2.own.lt b q).1; omega
          have m3 : W3.heap[w3.heap.size]? = some (.cells #[.slice va R.length vc] 23 (0, 0)) := by rw [hkp _ (lt_of_block m0) (hnb _ (by omega))]; exact m0
          obtain ⟨g3, gf3⟩ := one_cell m3
          have hsz2 : W.heap.size ≤ (W1.alloc (.cells (ccs c ma mc ka kc) 36)).heap.size := hB2.size
          have HX : Hid (PJ t w w3.heap.size (w4.heap.size + 1) (k + 1) (W3.setCell ⟨w3.heap.size, 0, none⟩ (.slice va' (R.length + 1) vc')) X ∧ Stay X W (W3.setCell ⟨w3.heap.size, 0, none⟩ (.slice va' (R.length + 1) vc'))) := ⟨by
            have hc0 := hJ.c0
            have hc1 := hJ.c1
            have l0 := lt_of_block hc0
            have l1 := lt_of_block hc1
            refine ⟨⟨?_, ?_, ?_, ⟨va', vc', R ++ [⟨c, ma, mc, ka, kc⟩], ?_, ?_, ?_, by simp; omega, ?_⟩, fun b q => ?_, hl0, hbs⟩, fun b hb2 hlt => ?_⟩
            · exact (hJ.bel.trans ((hB2.mono hJ.bel.size).trans (hBl.mono (by omega)))).setCell (p := ⟨w3.heap.size, 0, none⟩) (show w.heap.size ≤ w3.heap.size by omega) _
            · rw [hso _ ⟨w3.heap.size, 0, none⟩ (k := w.heap.size) (show w.heap.size ≠ w3.heap.size by omega), hkp _ (by omega) (hnb _ (by omega)), hB2.block _ l0]; exact hc0
            · rw [hso _ ⟨w3.heap.size, 0, none⟩ (k := w.heap.size + 1) (show w.heap.size + 1 ≠ w3.heap.size by omega), hkp _ (by omega) (hnb _ (by omega)), hB2.block _ l1]; exact hc1
            · rw [List.length_append]; exact one_set m3 _
            · rw [List.length_append]
              exact hF.oth (X := fun x => x = w3.heap.size) ((Oth.refl _ _).set rfl) (fun b e q => by have := (hF.lt q).1; rw [show b = w3.heap.size from e] at this; omega)
            · intro b hb q
              have hx := hJ.x b hb
              rcases q with q | ⟨r, hr2, q⟩
              · rw [List.length_append] at q
                rcases hob b q with q2 | q2
                · exact e3 b hb (.inl q2)
                · omega
              · rcases List.mem_append.1 hr2 with q2 | q2
                · exact e3 b hb (.inr ⟨r, q2, q⟩)
                · rw [List.mem_singleton.1 q2] at q
                  rcases q with q | q
                  · have := (hro.ow.lt b q).1; omega
                  · have := (hro.oi.lt b q).1; omega
            · rw [e5, hdl, cmds_some hsay hpl2, Option.map_map]
              congr 1
              funext y
              simp
            · have := hJ.x b q; simp; omega
            · have hx := hJ.x b hb2
              rw [hso _ ⟨w3.heap.size, 0, none⟩ (k := b) (show b ≠ w3.heap.size by omega), hkp _ (by omega) (fun q => e3 b hb2 (.inl q))]
              exact hB2.block b hlt⟩
          clear hJ hb2 hB2 hbc f2 hro2 m0 m3 hF hBl hkp hob hdl hsay hpl2 e1 e2 e3 e5 hro hsz hsz2 hnb
          gi_wp2
          exact HX.out
    case done =>
      intro W8 hJ8 hD8
      generalize hDe : (w4.alloc (.cells #[str t] 9)).heap.size = D at *
      have hD9 : w3.heap.size < D := (hJ8.x D (.inr rfl)).1
      have hl0 := hJ8.l0
      obtain ⟨va, vc, R, e1, e2, e3, e4, e5⟩ := hJ8.ex
      have hdr : (lnl t).drop (lnsE t).length = [] := List.drop_of_length_le (by rw [lnl_eq, List.length_map]; exact Nat.le_refl _)
      rw [hdr] at e5
      have e6 : cmds (lnl t) = some (R.map (·.c)) := by rw [e5]; simp [cmds]
      have HV : Hid (prsE t = 0) := ⟨by rw [HE.out, e6]; rfl⟩
      have HV2 : Hid (R.map (·.c) = prsL t) := ⟨by rw [HL.out, e6]; rfl⟩
      obtain ⟨q0, qf0⟩ := one_cell hJ8.c0
      obtain ⟨q1, qf1⟩ := one_cell hJ8.c1
      obtain ⟨q2, qf2⟩ := one_cell e1
      have n0 : ((W8.setCell ⟨w.heap.size, 0, none⟩ (.slice va R.length vc)).setCell ⟨w.heap.size + 1, 0, none⟩ (.int .i64 0)).heap[w.heap.size]? = some (.cells #[.slice va R.length vc] 23 (0, 0)) := by
        rw [hso _ ⟨w.heap.size + 1, 0, none⟩ (k := w.heap.size) (show w.heap.size ≠ w.heap.size + 1 by omega)]; exact one_set hJ8.c0 _
      have n1 : ((W8.setCell ⟨w.heap.size, 0, none⟩ (.slice va R.length vc)).setCell ⟨w.heap.size + 1, 0, none⟩ (.int .i64 0)).heap[w.heap.size + 1]? = some (.cells #[.int .i64 0] 25 (0, 0)) := one_set (by rw [hso _ ⟨w.heap.size, 0, none⟩ (k := w.heap.size + 1) (show w.heap.size + 1 ≠ w.heap.size by omega)]; exact hJ8.c1) _
      have hBf := (hJ8.bel.setCell (p := ⟨w.heap.size, 0, none⟩) (Nat.le_refl _) (.slice va R.length vc)).setCell (p := ⟨w.heap.size + 1, 0, none⟩) (Nat.le_succ _) (.int .i64 0)
      have hK : ((W8.setCell ⟨w.heap.size, 0, none⟩ (.slice va R.length vc)).setCell ⟨w.heap.size + 1, 0, none⟩ (.int .i64 0)).heap[D]? = some (.deferred (some [])) := by
        rw [hso _ ⟨w.heap.size + 1, 0, none⟩ (k := D) (show D ≠ w.heap.size + 1 by omega), hso _ ⟨w.heap.size, 0, none⟩ (k := D) (show D ≠ w.heap.size by omega)]; exact hD8
      have hbs := hJ8.bs
      have hF1 : Fc (w4.heap.size + 1) ((W8.setCell ⟨w.heap.size, 0, none⟩ (.slice va R.length vc)).setCell ⟨w.heap.size + 1, 0, none⟩ (.int .i64 0)) (.slice va R.length vc) R := e2.oth (X := fun x => x = w.heap.size ∨ x = w.heap.size + 1) (((Oth.refl _ _).set (.inl rfl)).set (.inr rfl)) (fun b e q => by have := (e2.lt q).1; rcases e with e | e <;> (rw [e] at this; omega))
      have HF := Hid.mk hF1
      have hDn : Hid (¬ Blk (.slice va R.length vc) R D) := ⟨e3 D (.inr rfl)⟩
      clear h0 hDe hJ8 hD8 hX0 hS0 htel hen hnew e1 e2 e3 e5 e6 hdr hF1
      gi_wp2
      generalize (W8.setCell ⟨w.heap.size, 0, none⟩ (.slice va R.length vc)).setCell ⟨w.heap.size + 1, 0, none⟩ (.int .i64 0) = W10 at *
      refine ⟨by simp, .inl ⟨_, _, rfl, run_takeDeferred hK, ?_⟩⟩
      have g0 : (W10.putObj D (.deferred none)).cell? ⟨w.heap.size, 0, none⟩ = some (.slice va R.length vc) := (one_cell (by rw [World.putObj_heap_other (by omega)]; exact n0)).1
      have g1 : (W10.putObj D (.deferred none)).cell? ⟨w.heap.size + 1, 0, none⟩ = some (.int .i64 0) := (one_cell (by rw [World.putObj_heap_other (by omega)]; exact n1)).1
      refine ⟨.tuple #[.slice va R.length vc, .int .i64 0], ?_, hBf.trans (belowK_b (w := w) (Nat.le_refl _) _ D _ _ (by omega) hK rfl rfl), va, vc, R, by rw [HV.out], ?_, HV2.out⟩
      · rw [results_cc rfl]
        go_simp
      · exact (HF.out.oth (X := fun x => x = D) (Oth.put _ _ rfl) (fun b e q => hDn.out (by rw [← show b = D from e]; exact q))).base (by omega)
    case stop =>
      intro k W8 hJ8 hD8
      generalize hDe : (w4.alloc (.cells #[str t] 9)).heap.size = D at *
      have hD9 : w3.heap.size < D := (hJ8.x D (.inr rfl)).1
      have hl0 := hJ8.l0
      have HV : Hid (prsE t = 110) := ⟨by rw [HE.out, hJ8.no]; rfl⟩
      have HV2 : Hid (prsL t = []) := ⟨by rw [HL.out, hJ8.no]; rfl⟩
      have n0 := hJ8.c0
      have n1 := hJ8.c1
      have hBf := hJ8.bel
      clear h0 hDe hJ8 hX0 hS0 htel hen hnew
      gi_wp2
      refine ⟨by simp, .inl ⟨_, _, rfl, run_takeDeferred hD8, ?_⟩⟩
      have g0 : (W8.putObj D (.deferred none)).cell? ⟨w.heap.size, 0, none⟩ = some (.slice none 0 0) := (one_cell (by rw [World.putObj_heap_other (by omega)]; exact n0)).1
      have g1 : (W8.putObj D (.deferred none)).cell? ⟨w.heap.size + 1, 0, none⟩ = some (.int .i64 110) := (one_cell (by rw [World.putObj_heap_other (by omega)]; exact n1)).1
      have hB9 := hBf.trans (belowK_b (w := w) (Nat.le_refl _) _ D _ (.deferred none) (by omega) hD8 rfl rfl)
      refine ⟨.tuple #[.slice none 0 0, .int .i64 110], ?_, hB9, none, 0, [], by rw [HV.out]; rfl, Fc.nil _ _ hB9.size, by rw [HV2.out]; rfl⟩
      rw [results_cc rfl]
      go_simp
theorem parse_any (t : By) (ht : t.length ≤ 4611686018427387904) (w : World) (hS : SG w) (hT : TB w) (hE : EG w) : Calls Tryd.prog 13 #[str t] w (PaP t w) := (callsIn_wide (n := 5)).1 (parse_in t ht w hS hT hE)
end Go.Proofs.YtgbkloihclbimaaDoor
