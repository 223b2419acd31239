import Derived.Test.YtgcdnanfnbdjjaaGreatSml
import Derived.Maps.AppendAt
/- Rows. -/
namespace Go.Proofs.YtgcdnanfnbdjjaaGreat
set_option linter.unusedVariables false
set_option linter.unusedSimpArgs false
open Go.RowKit Go.Shelf
attribute [local go_sem] Oper.semAt_some
def wcs (r : Rw) : List Value := [str r.key, .int .i64 r.seq, .bool r.mkr, .int .i64 r.size]
def wcells (l : List Rw) : List Value := (l.map wcs).flatten
theorem wcells_append (a b : List Rw) : wcells (a ++ b) = wcells a ++ wcells b := by simp [wcells]
theorem wcells_length (l : List Rw) : (wcells l).length = l.length * 4 := by
  induction l with
  | nil => rfl
  | cons p l ih => simp [wcells, wcs] at ih ⊢; omega
theorem wcells_get {l : List Rw} {k : Nat} {p : Rw} (h : l[k]? = some p) (j : Nat) (hj : j < 4) : (wcells l)[k * 4 + j]? = (wcs p)[j]? := by
  obtain ⟨hk, he⟩ := List.getElem?_eq_some_iff.1 h
  have e : l = l.take k ++ (p :: l.drop (k + 1)) := by
    rw [← he, List.getElem_cons_drop]
    simp
  have e2 : wcells l = wcells (l.take k) ++ (wcs p ++ wcells (l.drop (k + 1))) := by
    conv => lhs; rw [e]
    rw [wcells_append]
    rfl
  have hl : (wcells (l.take k)).length = k * 4 := by rw [wcells_length, List.length_take]; omega
  rw [e2, List.getElem?_append_right (by omega), hl, show k * 4 + j - k * 4 = j by omega, List.getElem?_append_left (by simp [wcs]; omega)]
theorem infoWf : (Tryz.prog.info? 73).map (fun i => (i.zero, i.size, i.bytes)) = some (some (.agg #[.string ⟨#[]⟩, .int .i64 0, .bool false, .int .i64 0]), 4, 40) := by kernel_rfl
/-- a row of rows of one's own -/
structure Wo (base : Nat) (w : World) (v : Value) (X : List Rw) : Prop where
  own : w.ownsRow base 73 4 v X.length (wcells X)
  le : base ≤ w.heap.size
theorem Wo.later {base : Nat} {w w' : World} {v : Value} {X : List Rw} (h : Wo base w v X) (hb : Below w.heap.size w w') : Wo base w' v X := ⟨own_later h.own hb, Nat.le_trans h.le hb.size⟩
/-- the rows that a slice holds -/
structure WIn (w : World) (a : Option Addr) (X : List Rw) : Prop where
  get : ∀ k r, X[k]? = some r → ∃ b off, a = some ⟨b, off, none⟩ ∧ b < w.heap.size ∧ w.cell? ⟨b, off + k * 4, none⟩ = some (str r.key) ∧ w.cell? ⟨b, off + k * 4 + 1, none⟩ = some (.int .i64 r.seq) ∧ w.cell? ⟨b, off + k * 4 + 2, none⟩ = some (.bool r.mkr) ∧ w.cell? ⟨b, off + k * 4 + 3, none⟩ = some (.int .i64 r.size)
theorem WIn.later {w w' : World} {a : Option Addr} {X : List Rw} (h : WIn w a X) (hb : Below w.heap.size w w') : WIn w' a X := by
  refine ⟨fun k v hk => ?_⟩
  obtain ⟨b, off, h1, h2, c0, c1, c2, c3⟩ := h.get k v hk
  exact ⟨b, off, h1, Nat.lt_of_lt_of_le h2 hb.size, (hb.cell (p := ⟨b, _, none⟩) h2).trans c0, (hb.cell (p := ⟨b, _, none⟩) h2).trans c1, (hb.cell (p := ⟨b, _, none⟩) h2).trans c2, (hb.cell (p := ⟨b, _, none⟩) h2).trans c3⟩
theorem Wo.sl {base : Nat} {w : World} {v : Value} {X : List Rw} (h : Wo base w v X) : ∃ a cap, v = .slice a X.length cap ∧ WIn w a X := by
  rcases h.own.2 with ⟨rfl, h0⟩ | ⟨g, cap, cur, rfl, hg, hc, h1, h2, h3, h4⟩
  · have : X = [] := List.eq_nil_of_length_eq_zero h0
    subst this
    exact ⟨none, 0, rfl, ⟨fun k v hk => by simp at hk⟩⟩
  · refine ⟨_, _, rfl, ⟨fun k r hq => ?_⟩⟩
    have hkl : k < X.length := (List.getElem?_eq_some_iff.1 hq).1
    have hlt := (h.own.lt g rfl).2
    have hp : (wcells X).length = X.length * 4 := wcells_length X
    have hx : ∀ j, j < 4 → w.cell? ⟨g, k * 4 + j, none⟩ = (wcs r)[j]? := fun j hj => by rw [h.own.cellAt _ (by omega), wcells_get hq j hj]
    refine ⟨g, 0, rfl, hlt, ?_, ?_, ?_, ?_⟩
    · rw [Nat.zero_add]; exact hx 0 (by omega)
    · rw [Nat.zero_add]; exact hx 1 (by omega)
    · rw [Nat.zero_add]; exact hx 2 (by omega)
    · rw [Nat.zero_add]; exact hx 3 (by omega)
abbrev prw (pre : List (Nat × Xv)) : List Rw := pre.map fun x => rwOf x.2.v
theorem prw_snoc (pre : List (Nat × Xv)) (x : Nat × Xv) : wcells (prw (pre ++ [x])) = wcells (prw pre) ++ wcs (rwOf x.2.v) := by
  unfold prw
  rw [List.map_append, wcells_append]
  simp [wcells]
theorem prw_all {L : List Vs} {E : Nat → Xv} (h : ∀ k v, L[k]? = some v → (E k).v = v) : prw (upz (bkF E L.length) L.length) = rwsL L := by
  unfold prw upz rwsL
  rw [List.map_map]
  apply List.ext_getElem?
  intro i
  by_cases hi : i < L.length
  · have h1 : L.length - 1 - i < L.length := by omega
    have h2 := h (L.length - 1 - i) _ (List.getElem?_eq_getElem h1)
    rw [List.getElem?_map, List.getElem?_range hi, List.getElem?_map, List.getElem?_reverse hi, List.getElem?_eq_getElem h1]
    simp [bkF, h2]
  · rw [List.getElem?_eq_none (by simp; omega), List.getElem?_eq_none (by simp; omega)]
set_option maxRecDepth 100000 in
set_option maxHeartbeats 4000000 in
theorem rows_in (L : List Vs) (w : World) (a : Option Addr) (n cap : Nat) (hL : Li w L a n cap) :
    CallsIn Fence.wide 5 Tryz.prog 55 #[.slice a n cap] w fun e w' => ∃ v, e = .returned v ∧ Wo w.heap.size w' v (rwsL L) ∧ Below w.heap.size w w' := by
  obtain rfl := hL.n
  obtain ⟨E, hE⟩ := hL.s.at'.fn
  obtain ⟨i0, hi, hz0, hz1, hz2⟩ := info_parts infoWf
  have hlen := hL.l
  have hmx : maxLen = 9223372036854775807 := rfl
  refine callsIn_of_wp_marks Tryz.func55 rfl trivial ?_ rfl
  simp only [Tryz.ntmps55, List.size_toArray, List.length_cons, List.length_nil, Nat.reduceAdd, Nat.reduceSub, Array.replicate_succ, Array.replicate_zero, List.push_toArray, List.append_toArray, List.nil_append, List.cons_append]
  gi_wp2_with (first
    | (gi_at_make; refine wpListIn_make_own _ rfl _ _ 58 rfl w.heap.size 73 i0 _ 4 Tryz.underlying58 hi hz0 hz1 .i64 .i64 _ L.length rfl rfl rfl (by rw [hz2]; omega) (by rw [hmx]; omega) (Nat.le_refl _) ?_; intro w1 own1 grow1)
    | (refine ⟨trivial, ?_⟩; gi_at_call 83; refine (back_in _ _ _ _ _).mono ?_; rintro e w' ⟨rfl, rfl⟩))
  have hs1 := grow1.size
  have B1 : Below w.heap.size w w1 := (Below.refl w.heap.size w).grown grow1 (Nat.le_refl _) (fun k e => by cases e)
  obtain ⟨W0, hW0⟩ : ∃ W0, (w1.alloc (.cells #[.slice (some ⟨w.heap.size, 0, none⟩) 0 L.length] 58)).alloc (.cells #[.slice a L.length cap] 22) = W0 := ⟨_, rfl⟩
  rw [hW0]
  have hsz : W0.heap.size = w1.heap.size + 2 := by rw [← hW0]; simp
  have hB0 : Below w.heap.size w W0 := by rw [← hW0]; exact (B1.alloc B1.size _).alloc (by simp; omega) _
  have x0 : Boxed W0 w1.heap.size 58 (.slice (some ⟨w.heap.size, 0, none⟩) 0 L.length) := by
    rw [← hW0]; exact (Boxed.new w1 58 _).alloc _
  have x2 : W0.heap[w1.heap.size + 1]? = some (.cells #[.slice a L.length cap] 22 (0, 0)) := by
    rw [← hW0]
    have := heap_alloc_new (w1.alloc (.cells #[.slice (some ⟨w.heap.size, 0, none⟩) 0 L.length] 58)) (.cells #[.slice a L.length cap] 22)
    rw [World.size_alloc] at this; exact this
  have x1 : W0.ownsRow w.heap.size 73 4 (.slice (some ⟨w.heap.size, 0, none⟩) 0 L.length) 0 [] := by
    rw [← hW0]; exact (own1.alloc _).alloc _
  clear hW0 own1
  generalize hR : w1.heap.size = R at *
  have hall := Hid.mk (prw_all (L := L) (E := E) (fun k v h => (hE k v h).1))
  refine wpIn_rangeFunc_ownH rfl (by omega) (gf := 94) (lb := #[.pointer (some ⟨R + 1, 0, none⟩)]) rfl trivial (enters_of Tryz.func94 (by kernel_rfl) rfl)
    (back_stops 4 (by omega) (R + 1) w.heap.size L.length cap a E (by omega) W0 hB0.size x2 (fun j hj => by
      obtain ⟨_, _, b, off, e1, e2, e3⟩ := hE j L[j] (List.getElem?_eq_getElem hj)
      exact ⟨b, off, e1, e2, e3.low hB0 e2⟩)) KB.t (KB.b hB0.size (by omega)) (Below.refl _ _) (fun _ => rfl)
    (fun pre W => ((∃ v, Boxed W R 58 v ∧ W.ownsRow w.heap.size 73 4 v (prw pre).length (wcells (prw pre)) ∧ True) ∧ W.heap[R + 1]? = some (.cells #[.slice a L.length cap] 22 (0, 0))) ∧ Below w.heap.size w W)
    (fun _ _ _ => False)
    (OwnFrom.and (OwnFrom.and (Own.from (holdsRow_own w.heap.size R 58 73 4 (fun pre => (prw pre).length) (fun pre => wcells (prw pre)) (fun pre v => True)) _) (Own.from (fun s A B row hs hg hr => cells_kept hs hg hr) _)) (ownFrom_below (Nat.le_refl _) (by omega)))
    (fun _ _ _ _ _ hs _ _ => hs)
    ⟨⟨⟨_, x0, x1, trivial⟩, x2⟩, hB0⟩
    (fun x a' W => ∃ Bx, R + 1 < Bx ∧ W.heap[Bx]? = some (.cells (c5 x.2) 39 (0, 0)) ∧ ∃ y11 y12, a' = { tmps := #[.slice a L.length cap, undef, .slice none 0 0, .pointer (some ⟨R, 0, none⟩), undef, .pointer (some ⟨Bx, 0, none⟩), .slice a L.length cap, .int .i64 (L.length : Int), .slice (some ⟨w.heap.size, 0, none⟩) 0 L.length, .slice a L.length cap, .func (.func 94) #[] #[.pointer (some ⟨R + 1, 0, none⟩)], y11, y12, undef, undef, undef, undef, undef, undef, undef, undef, undef, undef, undef, undef, undef, undef], defers := [] })
    (fun x a' => Own.from (fun s A B row hs hg hr => by
      obtain ⟨Bx, h1, h2, h3⟩ := hs
      exact ⟨Bx, h1, cells_kept h2 hg hr, h3⟩) _) ?assign ?body ?done ?stop
  case assign =>
    rintro l pre x W K ⟨⟨⟨v, h0, h1, _⟩, h2⟩, hB⟩ hK
    have hlt2 := lt_of_block h2
    gi_wp2
    exact hK _ _ ((KeepsOthers.alloc _ _).from _) ⟨(Below.refl _ W).alloc hB.size _, heap_alloc_old _ _ hlt2⟩ ⟨⟨⟨v, h0.alloc _, h1.alloc _, trivial⟩, by rw [heap_alloc_old _ _ hlt2]; exact h2⟩, hB.alloc hB.size _⟩ ⟨W.heap.size, by omega, heap_alloc_new _ _, _, _, rfl⟩
  case body =>
    rintro l pre x a' W hl ⟨r, hr⟩ ⟨⟨⟨v, hv, hrow, _⟩, h2⟩, hB⟩ ⟨Bx, hBx, bX, y11, y12, rfl⟩ hlt
    obtain ⟨q0, q1, q2, q3, q4, _⟩ := Bv.cells bX
    have hc := hv.cell
    have hpl : (prw pre).length = pre.length := List.length_map ..
    have hlt2 := lt_of_block h2
    have hzd : (⟨x.2.v.data.toArray⟩ : ByteArray).size = x.2.v.data.length := str_size _
    gi_wp2_with (gi_at_builtin; refine wpListIn_append_own _ rfl _ _ 58 rfl w.heap.size 73 i0 _ 4 40 Tryz.underlying58 hi hz0 hz1 hz2 rfl (by decide) _ _ _ rfl (hrow.alloc _) ⟨W.heap.size, 0, none⟩ 1 1 (wcs (rwOf x.2.v)) rfl rfl (World.news_of_block (cs := (wcs (rwOf x.2.v)).toArray) (t := 73) (fr := (0, 0)) (by first | exact heap_alloc_new W _ | (simp [rwOf, wcs]; exact heap_alloc_new W _))) (by simp [wcs, Value.oneCell']) (by rw [hmx]; omega) (by omega) (by have := hB.size; simp; omega) ?_; intro v' w1 hown' hgrow _; obtain ⟨g', cap', rfl⟩ := ownsRow_succ hown'; obtain ⟨hv1, hv2, hr2, hk2, hb2⟩ := hv.appended (by decide) hrow hB.size (by omega) hown' hgrow; have hc1 := hv1.cell; have hf1 := hv1.frozen)
    have hne : v.ownBlock ≠ some (R + 1) := fun q => by
      obtain ⟨cs, hq⟩ := own_type hrow q
      rw [h2] at hq
      injection hq with hq
      injection hq with _ hq
      exact absurd hq (by decide)
    rw [hpl] at hv2 hr2 hk2 hb2
    have e1 : (w1.setCell ⟨R, 0, none⟩ (.slice (some ⟨g', 0, none⟩) (pre.length + 1) cap')).heap[R + 1]? = W.heap[R + 1]? := by
      rw [heap_setCell_other _ _ _ _ (by simp), hgrow.block (R + 1) (by simp; omega) (Ne.symm hne), heap_alloc_old _ _ hlt2]
    have e2 : (prw (pre ++ [x])).length = pre.length + 1 := by simp [prw]
    exact ⟨hk2.from _, ⟨hb2, e1⟩, ⟨⟨_, hv2, by rw [prw_snoc, e2]; exact hr2, trivial⟩, by rw [e1]; exact h2⟩, hB.trans hb2⟩
  case done =>
    rintro D ys W hD rfl ⟨⟨⟨v, hv, hrow, _⟩, h2⟩, hB⟩ hK
    have hc := hv.cell
    gi_wp2
    refine ⟨by simp, .inl ⟨_, _, rfl, run_takeDeferred hK, ?_⟩⟩
    rw [hall.out] at hrow
    exact ⟨_, results_tmp rfl _ _ _, v, rfl, ⟨ownsRow_putObj hrow _ hK rfl, by have := hB.size; simpa using this⟩, hB.trans (belowK_b (w := w) (Nat.le_refl _) W D _ _ (by omega) hK rfl rfl)⟩
  case stop =>
    rintro D c pre W _ _ h _
    exact h.elim
theorem rows_any (L : List Vs) (w : World) (a : Option Addr) (n cap : Nat) (hL : Li w L a n cap) :
    Calls Tryz.prog 55 #[.slice a n cap] w fun e w' => ∃ v, e = .returned v ∧ Wo w.heap.size w' v (rwsL L) ∧ Below w.heap.size w w' :=
  (callsIn_wide (n := 5)).1 (rows_in L w a n cap hL)
end Go.Proofs.YtgcdnanfnbdjjaaGreat

/- The document's Rows, and SameRows of the same. -/
namespace Go.Proofs.YtgcdnanfnbdjjaaGreat
set_option linter.unusedVariables false
set_option linter.unusedSimpArgs false
open Go.RowKit Go.Shelf
attribute [local go_sem ↓] Go.wp_at_zero Go.wp_at_succ
theorem wcs_one (r : Rw) : ∀ u ∈ wcs r, u.oneCell' = true := by
  intro u hu
  simp [wcs] at hu
  rcases hu with rfl | rfl | rfl | rfl <;> rfl
theorem Wo.nil (w : World) (base : Nat) (h : base ≤ w.heap.size) : Wo base w (.slice none 0 0) [] := ⟨World.ownsRow_nil _ _ _ _, h⟩
theorem Wo.base {b b' : Nat} {w : World} {v : Value} {X : List Rw} (h : Wo b w v X) (hb : b' ≤ b) : Wo b' w v X := by
  refine ⟨⟨h.own.1, ?_⟩, Nat.le_trans hb h.le⟩
  rcases h.own.2 with e | ⟨g, cap, cur, e1, e2, e3⟩
  · exact Or.inl e
  · exact Or.inr ⟨g, cap, cur, e1, Nat.le_trans hb e2, e3⟩
/-- a row behind one's own -/
theorem run_wo {W : World} {base : Nat} {w : World} {v : Value} {X : List Rw} {g : Nat} (ty : TypeId) (r : Rw) (hW : W.heap = (w.alloc (.cells (wcs r).toArray 73)).heap) (hO : Wo base w v X) (hg : g = w.heap.size) (hn : X.length ≤ 1954687338260) :
    ∃ v' w', (Builtin.append_ #[58, 58] ty #[v, .slice (some ⟨g, 0, none⟩) 1 1]).run Tryz.prog W = .ok v' w' ∧ Wo base w' v' (X ++ [r]) ∧ Below base W w' := by
  subst hg
  obtain ⟨i0, hi, hz0, hz1, hz2⟩ := info_parts infoWf
  have hmx : maxLen = 9223372036854775807 := rfl
  have hWs : W.heap.size = w.heap.size + 1 := by rw [hW]; simp
  have hWn : W.heap[w.heap.size]? = some (.cells (wcs r).toArray 73 (0, 0)) := by rw [hW]; exact heap_alloc_new _ _
  have hle := hO.le
  have o1 : W.ownsRow base 73 4 v X.length (wcells X) := own_same hO.own (fun k hk => by rw [hW]; exact heap_alloc_old _ _ (hO.own.lt k hk).2)
  obtain ⟨v', w', hr, hown, hgrow, _⟩ := run_append_own_wide (P := Tryz.prog) (w := W) base 58 ty 73 i0 _ 4 40 Tryz.underlying58 hi hz0 hz1 hz2 rfl (by omega) v X.length (wcells X) o1 ⟨w.heap.size, 0, none⟩ 1 1 (wcs r) rfl
    (World.news_of_block (cs := (wcs r).toArray) (t := 73) (fr := (0, 0)) hWn) (wcs_one r) (by rw [hmx]; omega) (by omega) (by omega)
  refine ⟨v', w', hr, ⟨?_, by have := hgrow.size; omega⟩, grown_below o1 (by omega) hgrow⟩
  rw [wcells_append, List.length_append]
  have : wcells [r] = wcs r := by simp [wcells]
  rw [this]; exact hown
theorem step_wo {ops : Array Oper} {o : Oper} {a : Act} {K : Act → World → Prop} {Q : Exit → Act → World → Prop} {E : Prop} {W : World} (hgd : o.guard = none) (s x : Operand) (ho : o.op = .call { callee := .builtin .append, args := #[s, x], argTypes := #[58, 58] })
    {base : Nat} {w : World} {v : Value} {X : List Rw} {g : Nat} (r : Rw) (hO : Wo base w v X) (hW : W.heap = (w.alloc (.cells (wcs r).toArray 73)).heap) (hg : g = w.heap.size) (hn : X.length ≤ 1954687338260)
    (hs : a.eval s = v) (hx : a.eval x = .slice (some ⟨g, 0, none⟩) 1 1)
    (h : ∀ v' w', Wo base w' v' (X ++ [r]) → Below base W w' → K (a.put o.dst v') w') : if Region.wanted o (yielded ops a.tmps) = true then Oper.wp Tryz.prog o a W K Q else E := by
  obtain ⟨v', w', hr, h1, h2⟩ := run_wo (W := W) o.type r hW hO hg hn
  exact step_run hgd s x ho hs hx hr (h v' w' h1 h2)
theorem rwsL_len (L : List Vs) : (rwsL L).length = L.length := by simp [rwsL]
theorem rwsL_get {L : List Vs} {m : Nat} {u : Vs} (h : L[m]? = some u) : (rwsL L)[L.length - (m + 1)]? = some (rwOf u) := by
  have hm := (List.getElem?_eq_some_iff.1 h).1
  unfold rwsL
  rw [List.getElem?_map, List.getElem?_reverse (by omega), show L.length - 1 - (L.length - (m + 1)) = m by omega, h]
  rfl
theorem rwsL_step {L : List Vs} {m : Nat} {u : Vs} (h : L[m]? = some u) : (rwsL L).take (L.length - m) = (rwsL L).take (L.length - (m + 1)) ++ [rwOf u] := by
  have hm := (List.getElem?_eq_some_iff.1 h).1
  rw [show L.length - m = L.length - (m + 1) + 1 by omega]
  exact takeV (rwsL_get h)
end Go.Proofs.YtgcdnanfnbdjjaaGreat
