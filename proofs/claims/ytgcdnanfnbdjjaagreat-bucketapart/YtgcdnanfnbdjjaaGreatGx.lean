import Derived.Test.YtgcdnanfnbdjjaaGreatAsk
import Derived.Test.YtgcdnanfnbdjjaaGreatGv
import Derived.Test.YtgcdnanfnbdjjaaGreatGw
import Derived.Test.YtgcdnanfnbdjjaaGreatRwW
import Derived.Deep.CutRange
/- BucketApart: what its walk stands on. -/
namespace Go.Proofs.YtgcdnanfnbdjjaaGreat
set_option linter.unusedVariables false
set_option linter.unusedSimpArgs false
open Go.RowKit
theorem heap2 (w : World) (o o' : Obj) : ((w.alloc o).alloc o').heap[w.heap.size + 1]? = some o' := by have := heap_alloc_new (w.alloc o) o'; rwa [World.size_alloc] at this
theorem ro_empty {W : World} {base g : Nat} (h : W.heap[g]? = some (.cells #[] 39 (0, 0))) (hb : base ≤ g) (hs : base ≤ W.heap.size) : Ro base W (.slice (some ⟨g, 0, none⟩) 0 0) [] :=
  ⟨⟨rfl, Or.inr ⟨g, 0, #[], rfl, hb, h, Nat.le_refl _, by decide, rfl, rfl⟩⟩, hs⟩
theorem ro_one {W : World} {g : Nat} (r : Rv) (h : W.heap[g]? = some (.cells (rcs r).toArray 39 (0, 0))) : Ro 0 W (.slice (some ⟨g, 0, none⟩) 1 1) [r] :=
  ⟨⟨rfl, Or.inr ⟨g, 1, _, rfl, Nat.zero_le _, h, Nat.le_refl _, by decide, rfl, by simp [rcells, rcs]⟩⟩, Nat.zero_le _⟩
theorem run_ros2 {W : World} {base b2 : Nat} {v : Value} {R R2 : List Rv} (ty : TypeId) {ad : Option Addr} {n c : Nat} (f1 : Ro base W v R) (k1 : Ro b2 W (.slice ad n c) R2) (hn : R.length + R2.length ≤ 1954687338260) :
    ∃ v' w', (Builtin.append_ #[22, 22] ty #[v, .slice ad n c]).run Tryz.prog W = .ok v' w' ∧ Ro base w' v' (R ++ R2) ∧ W.heap.size ≤ w'.heap.size ∧ Below base W w' ∧ ∀ k, k < W.heap.size → v.ownBlock ≠ some k → w'.heap[k]? = W.heap[k]? := by
  obtain ⟨i0, hi0, hz0, hz1, hz2⟩ := infoV
  have hmx : maxLen = 9223372036854775807 := rfl
  rcases k1.own.2 with ⟨e, h0⟩ | ⟨g, cap, cur, e, hg, hc, g1, g2, g3, g4⟩
  · injection e with e1 e2 e3
    subst e1 e2 e3
    have hq : R2 = [] := List.eq_nil_of_length_eq_zero h0
    subst hq
    exact ⟨v, W, run_append_owned_none (P := Tryz.prog) W base 22 ty 39 i0 5 Tryz.underlying22 hi0 _ R.length (rcells R) f1.own, by simpa using f1, Nat.le_refl _, Below.refl _ _, fun k _ _ => rfl⟩
  · injection e with e1 e2 e3
    subst e1 e2 e3
    have hcells : ∀ j u, (rcells R2)[j]? = some u → W.cell? ((⟨g, 0, none⟩ : Addr).add j) = some u := fun j u hj => by
      rw [addr_add, Nat.zero_add]
      have := rcells_length R2
      have hlt := (List.getElem?_eq_some_iff.1 hj).1
      rw [k1.own.cellAt j (by omega)]
      exact hj
    rcases Nat.eq_zero_or_pos R2.length with h0 | h0
    · have hq : R2 = [] := List.eq_nil_of_length_eq_zero h0
      subst hq
      obtain ⟨v', w', hr, hown, hgrow, _⟩ := run_append_own_wide (P := Tryz.prog) (w := W) base 22 ty 39 i0 _ 5 72 Tryz.underlying22 hi0 hz0 hz1 hz2 rfl (by omega) v R.length (rcells R) f1.own ⟨g, 0, none⟩ 0 c [] rfl (by simp) (by simp) (by rw [hmx]; omega) (by omega) f1.le
      exact ⟨v', w', hr, ⟨by simpa using hown, Nat.le_trans f1.le hgrow.size⟩, hgrow.size, grown_below f1.own f1.le hgrow, fun k hk hne => hgrow.block k hk (Ne.symm hne)⟩
    · obtain ⟨gg, cap2, w', hr, hown, hgrow, hat, hlt⟩ := run_append_lies (P := Tryz.prog) (w := W) 22 ty base 39 i0 _ 5 72 Tryz.underlying22 hi0 hz0 hz1 hz2 rfl (by omega) v R.length (rcells R) f1.own ⟨g, 0, none⟩ R2.length c (rcells R2) (rcells_length R2) hcells (rcells_one R2) h0 (by rw [hmx]; omega) (by omega) f1.le _ rfl
      refine ⟨_, w', hr, ⟨?_, Nat.le_trans f1.le hgrow.size⟩, hgrow.size, grown_below f1.own f1.le hgrow, fun k hk hne => hgrow.block k hk (Ne.symm hne)⟩
      rw [rcells_append, List.length_append]; exact hown
theorem step_ros {ops : Array Oper} {o : Oper} {a : Act} {K : Act → World → Prop} {Q : Exit → Act → World → Prop} {E : Prop} {W : World} (hgd : o.guard = none) (s x : Operand) (ho : o.op = .call { callee := .builtin .append, args := #[s, x], argTypes := #[22, 22] })
    {base b2 : Nat} {v : Value} {R R2 : List Rv} {ad : Option Addr} {n c : Nat} (hs : a.eval s = v) (hx : a.eval x = .slice ad n c) (f1 : Ro base W v R) (k1 : Ro b2 W (.slice ad n c) R2) (hn : R.length + R2.length ≤ 1954687338260)
    (h : ∀ v' w', Ro base w' v' (R ++ R2) → W.heap.size ≤ w'.heap.size → Below base W w' → (∀ k, k < W.heap.size → v.ownBlock ≠ some k → w'.heap[k]? = W.heap[k]?) → K (a.put o.dst v') w') :
    if Region.wanted o (yielded ops a.tmps) = true then Oper.wp Tryz.prog o a W K Q else E := by
  obtain ⟨v', w', hr, h1, h2, h3, h4⟩ := run_ros2 o.type f1 k1 hn
  exact step_run hgd s x ho hs hx hr (h v' w' h1 h2 h3 h4)
abbrev sMark : List UInt8 := [109, 97, 114, 107]
def markV : Rv := ⟨⟨sMark, 0, false, [], []⟩, [], none, 0⟩
/-- what stands behind the first appends -/
structure KBa (W w : World) (g1 gb : Nat) (next : Int) (L : List Vs) (gr cr : Nat) (o : Op1) (ma : Option Addr) (mc : Nat) : Prop where
  b : Below W.heap.size W w
  zo : Bo w g1 (.int .i64 o.kind) (str o.key) (str o.data) (.slice ma o.l.length mc) (.int .i64 o.seq) (.int .i64 o.most)
  zb : Bq w gb (.int .i64 next) (.slice (some ⟨gr, 0, none⟩) L.length cr)
  li : Li w L (some ⟨gr, 0, none⟩) L.length cr
  mk' : w.cell? ⟨gr, L.length * 5, none⟩ = some (str sMark)
  gl : gr < w.heap.size
  cp : L.length + 1 ≤ cr
  mx : cr ≤ 9223372036854775807
  s : Sl w ma mc o.l
theorem KBa.later {W w w' : World} {g1 gb : Nat} {next : Int} {L : List Vs} {gr cr : Nat} {o : Op1} {ma : Option Addr} {mc : Nat} (h : KBa W w g1 gb next L gr cr o ma mc) (hb : Below w.heap.size w w') : KBa W w' g1 gb next L gr cr o ma mc :=
  ⟨h.b.trans (hb.mono h.b.size), h.zo.later hb, h.zb.later hb, h.li.later hb, (hb.cell (p := ⟨gr, _, none⟩) h.gl).trans h.mk', Nat.lt_of_lt_of_le h.gl hb.size, h.cp, h.mx, h.s.later hb⟩
theorem kba_of {W w : World} {g1 gb : Nat} {next : Int} {L : List Vs} {gr cr : Nat} {o : Op1} {ma : Option Addr} {mc : Nat} {sa : Option Addr} {sn sc : Nat} (b : Below W.heap.size W w) (zo : Bo w g1 (.int .i64 o.kind) (str o.key) (str o.data) (.slice ma o.l.length mc) (.int .i64 o.seq) (.int .i64 o.most)) (zb : Bq w gb (.int .i64 next) (.slice sa sn sc)) (li : Li w L (some ⟨gr, 0, none⟩) L.length cr) (mk' : w.cell? ⟨gr, L.length * 5, none⟩ = some (str sMark)) (gl : gr < w.heap.size) (cp : L.length + 1 ≤ cr) (mx : cr ≤ 9223372036854775807) (s : Sl w ma mc o.l)
    (hW : W.heap.size ≤ gb) (h1 : g1 < gb) (h2 : ¬ gr = gb) : KBa W (w.setCell ⟨gb, 1, none⟩ (.slice (some ⟨gr, 0, none⟩) L.length cr)) g1 gb next L gr cr o ma mc :=
  ⟨b.setCell (p := ⟨gb, 1, none⟩) hW _, zo.out (by omega) _, zb.set1 _, li_set li zb 1 _, (cell_set (g := gb) (j := 1) h2).trans mk', by simpa using gl, cp, mx, sl_set s zb 1 _⟩
/-- the new row, cut: its versions' pairs lie where they lay -/
theorem ro_li {base b2 : Nat} {w w' : World} {v va : Value} {R : List Rv} {L : List Vs} (h : Ro base w' v (R ++ [markV])) (fo : Fo b2 w va R) (hv : R.map (·.v) = L) (hb : Below w.heap.size w w') (hl : L.length ≤ 1954687338240) (hz : ∀ u ∈ L, u.l.length ≤ 4398046510976) :
    ∃ gr cr, v = .slice (some ⟨gr, 0, none⟩) (L.length + 1) cr ∧ Li w' L (some ⟨gr, 0, none⟩) L.length cr ∧ w'.cell? ⟨gr, L.length * 5, none⟩ = some (str sMark) ∧ gr < w'.heap.size ∧ L.length + 1 ≤ cr ∧ cr ≤ 9223372036854775807 ∧ base ≤ gr := by
  have hRl : R.length = L.length := by rw [← hv, List.length_map]
  have hlen : (R ++ [markV]).length = L.length + 1 := by simp [hRl]
  rcases h.own.2 with ⟨e, h0⟩ | ⟨g, cap, cur, e, hg, hc, h1, h2, h3, h4⟩
  · rw [hlen] at h0; omega
  · have hlt := (h.own.lt g (by rw [e]; rfl)).2
    rw [hlen] at e h1
    have hx : ∀ (k : Nat) (r : Rv), (R ++ [markV])[k]? = some r → ∀ j, j < 5 → w'.cell? ⟨g, k * 5 + j, none⟩ = (rcs r)[j]? := fun k r hr j hj => by
      have hk := (List.getElem?_eq_some_iff.1 hr).1
      have ho := h.own
      rw [e, hlen] at ho
      rw [ho.cellAt _ (by rw [hlen] at hk; omega), rcells_get hr j hj]
    refine ⟨g, cap, e, ⟨rfl, ⟨⟨fun k u hk => ?_⟩, by omega, h2, fun q => by cases q⟩, hl, hz⟩, ?_, hlt, h1, h2, hg⟩
    · rw [← hv, List.getElem?_map] at hk
      obtain ⟨r, hr, rfl⟩ := Option.map_eq_some_iff.1 hk
      have hkl := (List.getElem?_eq_some_iff.1 hr).1
      have hr2 : (R ++ [markV])[k]? = some r := by rw [List.getElem?_append_left hkl]; exact hr
      refine ⟨g, 0, r.a, r.c, rfl, hlt, ?_, ?_, ?_, ?_, ?_, ((fo.met k r hr).slPre).later hb⟩
      · rw [Nat.zero_add]; exact hx k r hr2 0 (by omega)
      · rw [Nat.zero_add]; exact hx k r hr2 1 (by omega)
      · rw [Nat.zero_add]; exact hx k r hr2 2 (by omega)
      · rw [Nat.zero_add]; exact hx k r hr2 3 (by omega)
      · rw [Nat.zero_add]; exact hx k r hr2 4 (by omega)
    · have := hx L.length markV (by rw [← hRl]; simp) 0 (by omega)
      exact this
end Go.Proofs.YtgcdnanfnbdjjaaGreat

/- BucketApart: what stands while the book is asked, marked and grown. -/
namespace Go.Proofs.YtgcdnanfnbdjjaaGreat
set_option linter.unusedVariables false
set_option linter.unusedSimpArgs false
open Go.RowKit
/-- where things lie: it stays -/
structure KSt (wB : World) (gme u8 gw gx : Nat) (wv : Value) (RW : List Rv) : Prop where
  tc : ∀ g, Tc wv RW g → u8 ≤ g ∧ g < gx
  lt : wB.heap.size ≤ gme ∧ gme < u8 ∧ u8 ≤ gw ∧ gw < gx
/-- below the book's things -/
structure KA (wB w0 : World) (gme u8 gw gx m mc8 : Nat) (next : Int) (wv : Value) (RW : List Rv) (l' : List En) (x0 x1 x2 x3 x4 x5 : Value) : Prop where
  bx : Bbk w0 gx x0 x1 x2 x3 x4 x5
  b : Below wB.heap.size wB w0
  was : Fo u8 w0 wv RW
  zw : Bq w0 gw (.int .i64 next) wv
  ml : l'.length = m + 1
  mt : w0.ownsRow 0 41 2 (.slice (some ⟨gme, 0, none⟩) (m + 1) mc8) (m + 1) (pcells l')
def st6 (w : World) (g : Nat) (x0 x1 x2 x3 x4 x5 : Value) : World := (((((w.setCell ⟨g, 0, none⟩ x0).setCell ⟨g, 1, none⟩ x1).setCell ⟨g, 2, none⟩ x2).setCell ⟨g, 3, none⟩ x3).setCell ⟨g, 4, none⟩ x4).setCell ⟨g, 5, none⟩ x5
theorem st6_eq (w : World) (g : Nat) (x0 x1 x2 x3 x4 x5 : Value) : (((((w.setCell ⟨g, 0, none⟩ x0).setCell ⟨g, 1, none⟩ x1).setCell ⟨g, 2, none⟩ x2).setCell ⟨g, 3, none⟩ x3).setCell ⟨g, 4, none⟩ x4).setCell ⟨g, 5, none⟩ x5 = st6 w g x0 x1 x2 x3 x4 x5 := rfl
theorem st6_size (w : World) (g : Nat) (x0 x1 x2 x3 x4 x5 : Value) : (st6 w g x0 x1 x2 x3 x4 x5).heap.size = w.heap.size := by unfold st6; simp
theorem st6_other (w : World) (g k : Nat) (x0 x1 x2 x3 x4 x5 : Value) (h : ¬ k = g) : (st6 w g x0 x1 x2 x3 x4 x5).heap[k]? = w.heap[k]? := by
  unfold st6
  rw [heap_setCell_other _ _ _ _ h, heap_setCell_other _ _ _ _ h, heap_setCell_other _ _ _ _ h, heap_setCell_other _ _ _ _ h, heap_setCell_other _ _ _ _ h, heap_setCell_other _ _ _ _ h]
theorem st6_bbk {w : World} {g : Nat} {a b c d e f : Value} (h : Bbk w g a b c d e f) (x0 x1 x2 x3 x4 x5 : Value) : Bbk (st6 w g x0 x1 x2 x3 x4 x5) g x0 x1 x2 x3 x4 x5 := by
  unfold st6 Bbk
  have h0 := heap_setCell_same w g 0 _ _ x0 h
  have h1 := heap_setCell_same _ g 1 _ _ x1 h0
  have h2 := heap_setCell_same _ g 2 _ _ x2 h1
  have h3 := heap_setCell_same _ g 3 _ _ x3 h2
  have h4 := heap_setCell_same _ g 4 _ _ x4 h3
  have h5 := heap_setCell_same _ g 5 _ _ x5 h4
  simpa using h5
theorem EnvF.low6 {w0 w : World} {F : Ix → Option Th} (h : EnvF w0 w F) (g : Nat) (hg : g < w0.heap.size) (x0 x1 x2 x3 x4 x5 : Value) : EnvF (st6 w0 g x0 x1 x2 x3 x4 x5) (st6 w g x0 x1 x2 x3 x4 x5) F := by
  unfold st6
  exact (((((h.low g 0 x0 hg).low g 1 x1 (by simpa using hg)).low g 2 x2 (by simpa using hg)).low g 3 x3 (by simpa using hg)).low g 4 x4 (by simpa using hg)).low g 5 x5 (by simpa using hg)
theorem own_form {w : World} {base s n : Nat} {t : TypeId} {v : Value} {xs : List Value} (h : w.ownsRow base t s v n xs) : ∃ a c, v = .slice a n c := by
  rcases h.2 with ⟨e, h0⟩ | ⟨g, cap, cur, e, _⟩
  · exact ⟨none, 0, by rw [e, h0]⟩
  · exact ⟨_, _, e⟩
section
variable {wB w0 : World} {gme u8 gw gx m mc8 : Nat} {next : Int} {wv : Value} {RW : List Rv} {l' : List En} {x0 x1 x2 x3 x4 x5 : Value}
/-- the book is laid down anew -/
theorem KA.book (h : KA wB w0 gme u8 gw gx m mc8 next wv RW l' x0 x1 x2 x3 x4 x5) (hs : KSt wB gme u8 gw gx wv RW) (y0 y1 y2 y3 y4 y5 : Value) : KA wB (st6 w0 gx y0 y1 y2 y3 y4 y5) gme u8 gw gx m mc8 next wv RW l' y0 y1 y2 y3 y4 y5 := by
  obtain ⟨l1, l2, l3, l4⟩ := hs.lt
  refine ⟨st6_bbk h.bx y0 y1 y2 y3 y4 y5, ?_, ?_, ?_, h.ml, ?_⟩
  · have hgx : wB.heap.size ≤ gx := by omega
    unfold st6
    exact ((((((h.b.setCell (p := ⟨gx, 0, none⟩) hgx _).setCell (p := ⟨gx, 1, none⟩) hgx _).setCell (p := ⟨gx, 2, none⟩) hgx _).setCell (p := ⟨gx, 3, none⟩) hgx _).setCell (p := ⟨gx, 4, none⟩) hgx _).setCell (p := ⟨gx, 5, none⟩) hgx _)
  · exact h.was.frame (by rw [st6_size]; exact Nat.le_refl _) (fun g hg => st6_other _ _ _ _ _ _ _ _ _ (by have := hs.tc g hg; omega))
  · unfold Bq
    rw [st6_other _ _ _ _ _ _ _ _ _ (by omega)]
    exact h.zw
  · have hgm : ∀ g, (Value.slice (some ⟨gme, 0, none⟩) (m + 1) mc8).ownBlock = some g → gme = g := fun g hg => by simpa [Value.ownBlock] using hg
    exact own_same h.mt (fun g hg => st6_other _ _ _ _ _ _ _ _ _ (by have := hgm g hg; omega))
/-- a pair of the metadata that was handed in is written over -/
theorem KA.pair (h : KA wB w0 gme u8 gw gx m mc8 next wv RW l' x0 x1 x2 x3 x4 x5) (hs : KSt wB gme u8 gw gx wv RW) {j : Nat} (hj : j < l'.length) (p : En) : KA wB ((w0.setCell ⟨gme, j * 2, none⟩ (str p.key)).setCell ⟨gme, j * 2 + 1, none⟩ (str p.val)) gme u8 gw gx m mc8 next wv RW (l'.set j p) x0 x1 x2 x3 x4 x5 := by
  obtain ⟨l1, l2, l3, l4⟩ := hs.lt
  have ho : ∀ k, ¬ k = gme → ((w0.setCell ⟨gme, j * 2, none⟩ (str p.key)).setCell ⟨gme, j * 2 + 1, none⟩ (str p.val)).heap[k]? = w0.heap[k]? := fun k hk => by rw [heap_setCell_other _ _ _ _ hk, heap_setCell_other _ _ _ _ hk]
  refine ⟨?_, ?_, ?_, ?_, by simpa using h.ml, ?_⟩
  · unfold Bbk
    rw [ho gx (by omega)]
    exact h.bx
  · exact (h.b.setCell (p := ⟨gme, _, none⟩) l1 _).setCell (p := ⟨gme, _, none⟩) l1 _
  · exact h.was.frame (by simp) (fun g hg => ho g (by have := hs.tc g hg; omega))
  · unfold Bq
    rw [ho gw (by omega)]
    exact h.zw
  · rw [pcells_set _ _ _ hj]
    exact own_cellT (own_cellT h.mt _ _) _ _
theorem KA.cells (h : KA wB w0 gme u8 gw gx m mc8 next wv RW l' x0 x1 x2 x3 x4 x5) {j : Nat} (hj : j < l'.length) : gme < w0.heap.size ∧ (∃ o1 o2, w0.cell? ⟨gme, j * 2, none⟩ = some o1 ∧ w0.cell? ⟨gme, j * 2 + 1, none⟩ = some o2) ∧ ∀ j, w0.frozen? ⟨gme, j, none⟩ = false := by
  have hl : (pcells l').length = l'.length * 2 := pcells_length _
  obtain ⟨g, cap, e, h1, h2, h3⟩ := own_row h.mt (by omega)
  obtain ⟨e0, -, -⟩ := sl_inj e
  obtain rfl : gme = g := by have := congrArg (fun a => (a.map Addr.block)) e0; simpa using this
  exact ⟨h1, ⟨_, _, by rw [h2 _ (by omega)]; exact List.getElem?_eq_getElem (by omega), by rw [h2 _ (by omega)]; exact List.getElem?_eq_getElem (by omega)⟩, h3⟩
/-- the metadata that was handed in, cut -/
theorem ka_meta {l : List En} (h : KA wB w0 gme u8 gw gx m mc8 next wv RW (l ++ [mk]) x0 x1 x2 x3 x4 x5) (hm : l.length = m) : Sl w0 (some ⟨gme, 0, none⟩) mc8 l ∧ gme < w0.heap.size ∧ w0.cell? ⟨gme, m * 2, none⟩ = some (str mk.key) ∧ m + 1 ≤ mc8 ∧ mc8 ≤ 9223372036854775807 := by
  have hO : Ow 0 w0 (.slice (some ⟨gme, 0, none⟩) (l ++ [mk]).length mc8) (l ++ [mk]) := ⟨by have := h.mt; simpa [hm] using this, Nat.zero_le _⟩
  obtain ⟨a, c, e, s⟩ := hO.sl
  obtain ⟨rfl, -, rfl⟩ := sl_inj e
  have hl : (pcells (l ++ [mk])).length = (l ++ [mk]).length * 2 := pcells_length _
  have hl2 : (l ++ [mk]).length = m + 1 := by simp [hm]
  obtain ⟨g, cap, e2, h1, h2, h3⟩ := own_row h.mt (by omega)
  obtain ⟨e0, -, -⟩ := sl_inj e2
  obtain rfl : gme = g := by have := congrArg (fun a => (a.map Addr.block)) e0; simpa using this
  have hg : (l ++ [mk])[m]? = some mk := by rw [← hm]; simp
  refine ⟨s.head, h1, ?_, by have := s.le; omega, s.max⟩
  rw [h2 _ (by omega)]
  exact (pcells_get hg).1
theorem KA.li (h : KA wB w0 gme u8 gw gx m mc8 next wv RW l' x0 x1 x2 x3 x4 x5) {L : List Vs} (hR : RtB next L) (hv : RW.map (·.v) = L) : ∃ a c, wv = .slice a L.length c ∧ Li w0 L a L.length c := by
  obtain ⟨a, c, e, ls⟩ := h.was.ls
  rw [hv] at ls
  have hl : RW.length = L.length := by rw [← hv, List.length_map]
  rw [hl] at e
  refine ⟨a, c, e, ⟨rfl, ls, ?_, fun u hu => rt_vl hR hu⟩⟩
  have := hR.len
  omega
end
theorem run_slice {w : World} {base : Nat} {v : Value} {l : List En} (ty : TypeId) {ad : Option Addr} {k c : Nat} (q : List En) (hO : Ow base w v l) (hS : Sl w ad c q) (hk : q.length = k) (hn : l.length + q.length ≤ 4500000000000) :
    ∃ v' w', (Builtin.append_ #[32, 32] ty #[v, .slice ad k c]).run Tryz.prog w = .ok v' w' ∧ Ow base w' v' (l ++ q) ∧ Below base w w' := by
  obtain ⟨i0, hi0, hz0, hz1, hz2⟩ := infoP
  have hm : maxLen = 9223372036854775807 := rfl
  subst hk
  cases ad with
  | none =>
    have hc := hS.nil rfl
    have h0 : q.length = 0 := by have := hS.le; omega
    have hq : q = [] := List.eq_nil_of_length_eq_zero h0
    subst hq hc
    exact ⟨v, w, run_append_owned_none (P := Tryz.prog) w base 32 ty 41 i0 2 Tryz.underlying32 hi0 _ l.length (pcells l) hO.own, by simpa using hO, Below.refl _ _⟩
  | some ad =>
    have hcells : ∀ j u, (pcells q)[j]? = some u → w.cell? (ad.add j) = some u := by
      rcases Nat.eq_zero_or_pos q.length with h0 | h0
      · intro j u hj
        have hq : q = [] := List.eq_nil_of_length_eq_zero h0
        subst hq
        simp [pcells] at hj
      · obtain ⟨b, off, e, _⟩ := hS.at'.get 0 q[0] (List.getElem?_eq_getElem h0)
        injection e with e
        subst e
        exact hS.at'.cells
    obtain ⟨v', w', hr, hown, hgrow, _⟩ := run_append_own_wide (P := Tryz.prog) w base 32 ty 41 i0 _ 2 32 Tryz.underlying32 hi0 hz0 hz1 hz2 rfl (by omega) v l.length (pcells l) hO.own ad q.length c (pcells q) (pcells_length q) hcells (pcells_one q) (by rw [hm]; omega) (by omega) hO.le
    refine ⟨v', w', hr, ⟨?_, ?_⟩, grown_below hO.own hO.le hgrow⟩
    · rw [pcells_append, List.length_append]; exact hown
    · have := hgrow.size; have h2 := hO.le; omega
theorem step_app {ops : Array Oper} {o : Oper} {a : Act} {K : Act → World → Prop} {Q : Exit → Act → World → Prop} {E : Prop} {w : World} (hgd : o.guard = none) (s x : Operand) (ho : o.op = .call { callee := .builtin .append, args := #[s, x], argTypes := #[32, 32] })
    {base : Nat} {v : Value} {l : List En} {ad : Option Addr} {k c : Nat} (q : List En) (hO : Ow base w v l) (hS : Sl w ad c q) (hk : q.length = k) (hn : l.length + q.length ≤ 4500000000000)
    (hs : a.eval s = v) (hx : a.eval x = .slice ad k c)
    (h : ∀ v' w', Ow base w' v' (l ++ q) → Below base w w' → K (a.put o.dst v') w') :
    if Region.wanted o (yielded ops a.tmps) = true then Oper.wp Tryz.prog o a w K Q else E := by
  obtain ⟨v', w', hr, h1, h2⟩ := run_slice o.type q hO hS hk hn
  exact step_run hgd s x ho hs hx hr (h v' w' h1 h2)
theorem own_base {w : World} {base s n : Nat} {t : TypeId} {v : Value} {xs : List Value} (h : w.ownsRow base t s v n xs) : w.ownsRow 0 t s v n xs := by
  refine ⟨h.1, ?_⟩
  rcases h.2 with e | ⟨g, cap, cur, e1, e2, e3⟩
  · exact Or.inl e
  · exact Or.inr ⟨g, cap, cur, e1, Nat.zero_le _, e3⟩
theorem book_nil (w : World) : EnvF w w (TF (bookL [] (.slice none 0 0) (.slice none 0 0) (.slice none 0 0) (.slice none 0 0) (.slice none 0 0) (.slice none 0 0) [] [] [] [] [] [])) := by
  have hnil : ∀ (t : TypeId) (s : Nat) (k : Nat), ¬ (rwTh t s (.slice none 0 0) 0 []).foot k := fun t s k h => by cases h
  have hat : ∀ (t : TypeId) (s : Nat), (rwTh t s (.slice none 0 0) 0 []).at' w := fun t s => World.ownsRow_nil _ _ _ _
  have key : ∀ (i : Ix) (t : Th), TF (bookL [] (.slice none 0 0) (.slice none 0 0) (.slice none 0 0) (.slice none 0 0) (.slice none 0 0) (.slice none 0 0) [] [] [] [] [] []) i = some t → ∃ ty sz, t = rwTh ty sz (.slice none 0 0) 0 [] := by
    rintro ⟨k, j⟩ t h
    rcases k with _ | _ | k
    · simp [TF, bookL] at h
    · have h : [rwTh 24 2 (.slice none 0 0) 0 [], rwTh 24 2 (.slice none 0 0) 0 [], rwTh 58 1 (.slice none 0 0) 0 [], rwTh 58 1 (.slice none 0 0) 0 [], rwTh 39 5 (.slice none 0 0) 0 [], rwTh 39 5 (.slice none 0 0) 0 []][j]? = some t := h
      have hm := List.mem_of_getElem? h
      simp only [List.mem_cons, List.not_mem_nil, or_false] at hm
      rcases hm with rfl | rfl | rfl | rfl | rfl | rfl <;> exact ⟨_, _, rfl⟩
    · rcases k with _ | _ | _ | _ | _ | _ | k <;> simp [TF, bookL] at h
  refine ⟨fun i t hi => ?_, fun i j s t k _ hi hj hf => ?_, fun i t k hi hf => ?_, Below.refl _ _⟩
  · obtain ⟨ty, sz, rfl⟩ := key i t hi
    exact hat ty sz
  · obtain ⟨ty, sz, rfl⟩ := key i s hi
    exact absurd hf (hnil ty sz k)
  · obtain ⟨ty, sz, rfl⟩ := key i t hi
    exact absurd hf (hnil ty sz k)
/-- the book between two askings -/
structure LA (wB w : World) (gme u8 gw gx m mc8 : Nat) (next : Int) (wv : Value) (RW : List Rv) (i : Nat) (l' : List En) : Prop where
  ex : ∃ (w0 : World) (a0 : Option Addr) (c0 : Nat) (a1 : Option Addr) (c1 : Nat) (a2 : Option Addr) (c2 : Nat) (a3 : Option Addr) (c3 : Nat) (a4 : Option Addr) (c4 : Nat) (a5 : Option Addr) (c5 : Nat) (B Wl : List Bt) (X Y : List Xt) (M N : List Mt'), KA wB w0 gme u8 gw gx m mc8 next wv RW l' (.slice a0 B.length c0) (.slice a1 Wl.length c1) (.slice a2 X.length c2) (.slice a3 Y.length c3) (.slice a4 M.length c4) (.slice a5 N.length c5) ∧ EnvF w0 w (TF (bookL [] (.slice a0 B.length c0) (.slice a1 Wl.length c1) (.slice a2 X.length c2) (.slice a3 Y.length c3) (.slice a4 M.length c4) (.slice a5 N.length c5) B Wl X Y M N)) ∧ Alike B Wl X Y M N ∧ B.length = 3 * i ∧ X.length = 2 * i ∧ M.length = 2 * i
theorem LA.bel {wB w : World} {gme u8 gw gx m mc8 : Nat} {next : Int} {wv : Value} {RW : List Rv} {i : Nat} {l' : List En} (h : LA wB w gme u8 gw gx m mc8 next wv RW i l') : Below wB.heap.size wB w := by
  obtain ⟨w0, a0, c0, a1, c1, a2, c2, a3, c3, a4, c4, a5, c5, B, Wl, X, Y, M, N, K, E, _⟩ := h.ex
  exact K.b.trans (E.bel.mono K.b.size)
theorem LA.later {wB w w' : World} {gme u8 gw gx m mc8 : Nat} {next : Int} {wv : Value} {RW : List Rv} {i : Nat} {l' : List En} (h : LA wB w gme u8 gw gx m mc8 next wv RW i l') (hb : Below w.heap.size w w') : LA wB w' gme u8 gw gx m mc8 next wv RW i l' := by
  obtain ⟨w0, a0, c0, a1, c1, a2, c2, a3, c3, a4, c4, a5, c5, B, Wl, X, Y, M, N, K, E, h1⟩ := h.ex
  exact ⟨w0, a0, c0, a1, c1, a2, c2, a3, c3, a4, c4, a5, c5, B, Wl, X, Y, M, N, K, E.below hb, h1⟩
/-- a pair of what was handed in is written over -/
theorem LA.pair {wB w : World} {gme u8 gw gx m mc8 : Nat} {next : Int} {wv : Value} {RW : List Rv} {i : Nat} {l' : List En} (h : LA wB w gme u8 gw gx m mc8 next wv RW i l') (hs : KSt wB gme u8 gw gx wv RW) {j : Nat} (hj : j < l'.length) (p : En) :
    (∃ o1 o2, w.cell? ⟨gme, j * 2, none⟩ = some o1 ∧ w.cell? ⟨gme, j * 2 + 1, none⟩ = some o2) ∧ (∀ j, w.frozen? ⟨gme, j, none⟩ = false) ∧ LA wB ((w.setCell ⟨gme, j * 2, none⟩ (str p.key)).setCell ⟨gme, j * 2 + 1, none⟩ (str p.val)) gme u8 gw gx m mc8 next wv RW i (l'.set j p) := by
  obtain ⟨w0, a0, c0, a1, c1, a2, c2, a3, c3, a4, c4, a5, c5, B, Wl, X, Y, M, N, K, E, h1⟩ := h.ex
  obtain ⟨hg, ⟨o1, o2, q1, q2⟩, hf⟩ := K.cells hj
  refine ⟨⟨o1, o2, (E.bel.cell (p := ⟨gme, _, none⟩) hg).trans q1, (E.bel.cell (p := ⟨gme, _, none⟩) hg).trans q2⟩, fun j => ?_, _, a0, c0, a1, c1, a2, c2, a3, c3, a4, c4, a5, c5, B, Wl, X, Y, M, N, K.pair hs hj p, (E.low gme _ _ hg).low gme _ _ (by simpa using hg), h1⟩
  have := E.bel.block gme hg
  rw [World.frozen?_of_block (w := w0) this]
  exact hf j
theorem run_slice2 {w : World} {base : Nat} {v : Value} {l : List En} (ty : TypeId) {ad : Option Addr} {k c : Nat} (q : List En) (hO : Ow base w v l) (hS : Sl w ad c q) (hk : q.length = k) (hn : l.length + q.length ≤ 4500000000000) :
    ∃ v' w', (Builtin.append_ #[32, 32] ty #[v, .slice ad k c]).run Tryz.prog w = .ok v' w' ∧ Ow base w' v' (l ++ q) ∧ Below base w w' ∧ ∀ k, k < w.heap.size → v.ownBlock ≠ some k → w'.heap[k]? = w.heap[k]? := by
  obtain ⟨i0, hi0, hz0, hz1, hz2⟩ := infoP
  have hm : maxLen = 9223372036854775807 := rfl
  subst hk
  cases ad with
  | none =>
    have hc := hS.nil rfl
    have h0 : q.length = 0 := by have := hS.le; omega
    have hq : q = [] := List.eq_nil_of_length_eq_zero h0
    subst hq hc
    exact ⟨v, w, run_append_owned_none (P := Tryz.prog) w base 32 ty 41 i0 2 Tryz.underlying32 hi0 _ l.length (pcells l) hO.own, by simpa using hO, Below.refl _ _, fun k _ _ => rfl⟩
  | some ad =>
    have hcells : ∀ j u, (pcells q)[j]? = some u → w.cell? (ad.add j) = some u := by
      rcases Nat.eq_zero_or_pos q.length with h0 | h0
      · intro j u hj
        have hq : q = [] := List.eq_nil_of_length_eq_zero h0
        subst hq
        simp [pcells] at hj
      · obtain ⟨b, off, e, _⟩ := hS.at'.get 0 q[0] (List.getElem?_eq_getElem h0)
        injection e with e
        subst e
        exact hS.at'.cells
    obtain ⟨v', w', hr, hown, hgrow, _⟩ := run_append_own_wide (P := Tryz.prog) w base 32 ty 41 i0 _ 2 32 Tryz.underlying32 hi0 hz0 hz1 hz2 rfl (by omega) v l.length (pcells l) hO.own ad q.length c (pcells q) (pcells_length q) hcells (pcells_one q) (by rw [hm]; omega) (by omega) hO.le
    refine ⟨v', w', hr, ⟨?_, ?_⟩, grown_below hO.own hO.le hgrow, fun k hk hne => hgrow.block k hk (Ne.symm hne)⟩
    · rw [pcells_append, List.length_append]; exact hown
    · have := hgrow.size; have h2 := hO.le; omega
theorem step_app2 {ops : Array Oper} {o : Oper} {a : Act} {K : Act → World → Prop} {Q : Exit → Act → World → Prop} {E : Prop} {w : World} (hgd : o.guard = none) (s x : Operand) (ho : o.op = .call { callee := .builtin .append, args := #[s, x], argTypes := #[32, 32] })
    {base : Nat} {v : Value} {l : List En} {ad : Option Addr} {k c : Nat} (q : List En) (hO : Ow base w v l) (hS : Sl w ad c q) (hk : q.length = k) (hn : l.length + q.length ≤ 4500000000000)
    (hs : a.eval s = v) (hx : a.eval x = .slice ad k c)
    (h : ∀ v' w', Ow base w' v' (l ++ q) → Below base w w' → (∀ k, k < w.heap.size → v.ownBlock ≠ some k → w'.heap[k]? = w.heap[k]?) → K (a.put o.dst v') w') :
    if Region.wanted o (yielded ops a.tmps) = true then Oper.wp Tryz.prog o a w K Q else E := by
  obtain ⟨v', w', hr, h1, h2, h3⟩ := run_slice2 o.type q hO hS hk hn
  exact step_run hgd s x ho hs hx hr (h v' w' h1 h2 h3)
theorem ow_empty {W : World} {base g : Nat} (h : W.heap[g]? = some (.cells #[] 41 (0, 0))) (hb : base ≤ g) (hs : base ≤ W.heap.size) : Ow base W (.slice (some ⟨g, 0, none⟩) 0 0) [] :=
  ⟨⟨rfl, Or.inr ⟨g, 0, #[], rfl, hb, h, Nat.le_refl _, by decide, rfl, rfl⟩⟩, hs⟩
/-- an empty book is asked -/
theorem asked_first (next : Int) (L : List Vs) (hR : RtB next L) (o : Op1) (hz : o.l.length ≤ 4398046510976) (hpz : Pz o.l) (w : World) (ma : Option Addr) (mc : Nat) (a : Option Addr) (c : Nat) (m2 : Option Addr) (mc2 : Nat) (hL : Li w L a L.length c) (hS : Sl w ma mc o.l) (hS2 : Sl w m2 mc2 o.l) :
    Calls Tryz.prog 14 #[.agg #[.slice none 0 0, .slice none 0 0, .slice none 0 0, .slice none 0 0, .slice none 0 0, .slice none 0 0], bv next a L.length c, .agg #[.int .i64 o.kind, str o.key, str o.data, .slice ma o.l.length mc, .int .i64 o.seq, .int .i64 o.most], .slice m2 o.l.length mc2] w fun e w' => ∃ (b0 : Option Addr) (d0 : Nat) (b1 : Option Addr) (d1 : Nat) (b2 : Option Addr) (d2 : Nat) (b3 : Option Addr) (d3 : Nat) (b4 : Option Addr) (d4 : Nat) (b5 : Option Addr) (d5 : Nat) (B Wl : List Bt) (X Y : List Xt) (M N : List Mt'), e = .returned (.agg #[.slice b0 B.length d0, .slice b1 Wl.length d1, .slice b2 X.length d2, .slice b3 Y.length d3, .slice b4 M.length d4, .slice b5 N.length d5]) ∧ EnvF w w' (TF (bookL [] (.slice b0 B.length d0) (.slice b1 Wl.length d1) (.slice b2 X.length d2) (.slice b3 Y.length d3) (.slice b4 M.length d4) (.slice b5 N.length d5) B Wl X Y M N)) ∧ Alike B Wl X Y M N ∧ B.length = 3 ∧ X.length = 2 ∧ M.length = 2 := by
  have h := asked_any next L hR o hz hpz [] [] [] [] [] [] (by simp) w w ma mc a c m2 mc2 none 0 none 0 none 0 none 0 none 0 none 0 hL hS hS2 (book_nil w)
  refine Calls.mono h ?_
  rintro e w18 ⟨v0, v1, v2, v3, v4, v5, B', Wl', X', Y', M', N', rfl, E', e1, e2, e3, e4, e5, e6, e7, e8, e9, e10⟩
  have E18 : EnvF w w18 (TF (bookL [] v0 v1 v2 v3 v4 v5 B' Wl' X' Y' M' N')) := E'
  obtain ⟨b0, d0, rfl⟩ := own_form (E18.at' (1, 0) _ rfl)
  obtain ⟨b1, d1, rfl⟩ := own_form (E18.at' (1, 1) _ rfl)
  obtain ⟨b2, d2, rfl⟩ := own_form (E18.at' (1, 2) _ rfl)
  obtain ⟨b3, d3, rfl⟩ := own_form (E18.at' (1, 3) _ rfl)
  obtain ⟨b4, d4, rfl⟩ := own_form (E18.at' (1, 4) _ rfl)
  obtain ⟨b5, d5, rfl⟩ := own_form (E18.at' (1, 5) _ rfl)
  exact ⟨b0, d0, b1, d1, b2, d2, b3, d3, b4, d4, b5, d5, B', Wl', X', Y', M', N', rfl, E18, ⟨e1, e3, e4, e5, e7, e8, e10⟩, e2, e6, e9⟩
/-- the last book -/
structure LF (W wx : World) (g1 gb : Nat) (next : Int) (L : List Vs) (gr cr : Nat) (o : Op1) (ma : Option Addr) (mc : Nat) (u8 gw gy : Nat) (wv : Value) (RW : List Rv) : Prop where
  ex : ∃ (w0 : World) (a0 : Option Addr) (c0 : Nat) (a1 : Option Addr) (c1 : Nat) (a2 : Option Addr) (c2 : Nat) (a3 : Option Addr) (c3 : Nat) (a4 : Option Addr) (c4 : Nat) (a5 : Option Addr) (c5 : Nat) (B Wl : List Bt) (X Y : List Xt) (M N : List Mt'), KBa W wx g1 gb next L gr cr o ma mc ∧ Fo u8 wx wv RW ∧ Bq wx gw (.int .i64 next) wv ∧ Bbk wx gy (.slice a0 B.length c0) (.slice a1 Wl.length c1) (.slice a2 X.length c2) (.slice a3 Y.length c3) (.slice a4 M.length c4) (.slice a5 N.length c5) ∧ EnvF w0 wx (TF (bookL [] (.slice a0 B.length c0) (.slice a1 Wl.length c1) (.slice a2 X.length c2) (.slice a3 Y.length c3) (.slice a4 M.length c4) (.slice a5 N.length c5) B Wl X Y M N)) ∧ Alike B Wl X Y M N ∧ B.length = 3 ∧ X.length = 2 ∧ M.length = 2
/-- it was made ahead of the asking -/
theorem lf_a {W w0 wx : World} {g1 gb : Nat} {next : Int} {L : List Vs} {gr cr : Nat} {o : Op1} {ma : Option Addr} {mc : Nat} {u8 gw gy : Nat} {wv : Value} {RW : List Rv} {a0 : Option Addr} {c0 : Nat} {a1 : Option Addr} {c1 : Nat} {a2 : Option Addr} {c2 : Nat} {a3 : Option Addr} {c3 : Nat} {a4 : Option Addr} {c4 : Nat} {a5 : Option Addr} {c5 : Nat} {B Wl : List Bt} {X Y : List Xt} {M N : List Mt'} {z0 z1 z2 z3 z4 z5 : Value} {wG : World} (kb : KBa W wG g1 gb next L gr cr o ma mc) (fo : Fo u8 wG wv RW) (zw : Bq wG gw (.int .i64 next) wv) (hb : Below wG.heap.size wG w0) (hg : wG.heap.size ≤ gy) (hz : Bbk w0 gy z0 z1 z2 z3 z4 z5)
    (E : EnvF w0 wx (TF (bookL [] (.slice a0 B.length c0) (.slice a1 Wl.length c1) (.slice a2 X.length c2) (.slice a3 Y.length c3) (.slice a4 M.length c4) (.slice a5 N.length c5) B Wl X Y M N))) (hA : Alike B Wl X Y M N) (h3 : B.length = 3) (h2 : X.length = 2) (h1 : M.length = 2) : LF W (st6 wx gy (.slice a0 B.length c0) (.slice a1 Wl.length c1) (.slice a2 X.length c2) (.slice a3 Y.length c3) (.slice a4 M.length c4) (.slice a5 N.length c5)) g1 gb next L gr cr o ma mc u8 gw gy wv RW := by
  have hb2 : Below wG.heap.size wG (st6 wx gy (.slice a0 B.length c0) (.slice a1 Wl.length c1) (.slice a2 X.length c2) (.slice a3 Y.length c3) (.slice a4 M.length c4) (.slice a5 N.length c5)) := by
    have hbx := hb.trans (E.bel.mono hb.size)
    unfold st6
    exact (((((((hbx.setCell (p := ⟨gy, 0, none⟩) hg _).setCell (p := ⟨gy, 1, none⟩) hg _)).setCell (p := ⟨gy, 2, none⟩) hg _).setCell (p := ⟨gy, 3, none⟩) hg _).setCell (p := ⟨gy, 4, none⟩) hg _).setCell (p := ⟨gy, 5, none⟩) hg _)
  exact ⟨_, a0, c0, a1, c1, a2, c2, a3, c3, a4, c4, a5, c5, B, Wl, X, Y, M, N, kb.later hb2, fo.later hb2, zw.later hb2, st6_bbk (hz.later E.bel) _ _ _ _ _ _, E.low6 gy (lt_of_block hz) _ _ _ _ _ _, hA, h3, h2, h1⟩
/-- .. or behind it -/
theorem lf_b {W w0 wx : World} {g1 gb : Nat} {next : Int} {L : List Vs} {gr cr : Nat} {o : Op1} {ma : Option Addr} {mc : Nat} {u8 gw : Nat} {wv : Value} {RW : List Rv} {a0 : Option Addr} {c0 : Nat} {a1 : Option Addr} {c1 : Nat} {a2 : Option Addr} {c2 : Nat} {a3 : Option Addr} {c3 : Nat} {a4 : Option Addr} {c4 : Nat} {a5 : Option Addr} {c5 : Nat} {B Wl : List Bt} {X Y : List Xt} {M N : List Mt'} {wG : World} (kb : KBa W wG g1 gb next L gr cr o ma mc) (fo : Fo u8 wG wv RW) (zw : Bq wG gw (.int .i64 next) wv) (hb : Below wG.heap.size wG w0)
    (E : EnvF w0 wx (TF (bookL [] (.slice a0 B.length c0) (.slice a1 Wl.length c1) (.slice a2 X.length c2) (.slice a3 Y.length c3) (.slice a4 M.length c4) (.slice a5 N.length c5) B Wl X Y M N))) (hA : Alike B Wl X Y M N) (h3 : B.length = 3) (h2 : X.length = 2) (h1 : M.length = 2) : LF W (wx.alloc (.cells #[.slice a0 B.length c0, .slice a1 Wl.length c1, .slice a2 X.length c2, .slice a3 Y.length c3, .slice a4 M.length c4, .slice a5 N.length c5] 45)) g1 gb next L gr cr o ma mc u8 gw wx.heap.size wv RW := by
  have ba := (Below.refl wx.heap.size wx).alloc (Nat.le_refl _) (.cells #[.slice a0 B.length c0, .slice a1 Wl.length c1, .slice a2 X.length c2, .slice a3 Y.length c3, .slice a4 M.length c4, .slice a5 N.length c5] 45)
  have hb2 := (hb.trans (E.bel.mono hb.size)).trans (ba.mono (Nat.le_trans hb.size E.bel.size))
  exact ⟨_, a0, c0, a1, c1, a2, c2, a3, c3, a4, c4, a5, c5, B, Wl, X, Y, M, N, kb.later hb2, fo.later hb2, zw.later hb2, heap_alloc_new _ _, E.below ba, hA, h3, h2, h1⟩
theorem fo_li {u8 : Nat} {w : World} {RW : List Rv} {next : Int} {L : List Vs} {wa : Option Addr} {wcp : Nat} (fo : Fo u8 w (.slice wa L.length wcp) RW) (hR : RtB next L) (hv : RW.map (·.v) = L) : Li w L wa L.length wcp := by
  obtain ⟨a, c, e, ls⟩ := fo.ls
  rw [hv] at ls
  obtain ⟨rfl, -, rfl⟩ := sl_inj e
  refine ⟨rfl, ls, ?_, fun u hu => rt_vl hR hu⟩
  have := hR.len
  omega
end Go.Proofs.YtgcdnanfnbdjjaaGreat
