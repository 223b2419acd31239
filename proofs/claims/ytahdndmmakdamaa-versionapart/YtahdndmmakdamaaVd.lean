/- Read. -/
import Derived.Test.YtahdndmmakdamaaVp
namespace Go.Proofs.Ytahdndmmakdamaa
set_option linter.unusedVariables false
set_option linter.unusedSimpArgs false
open Go.RowKit
attribute [local go_sem ↓] Go.wp_at_zero Go.wp_at_succ
/-- what Read answers -/
def RdP (w : World) (o : Option Vs) (e : Ending) (w' : World) : Prop := Below w.heap.size w w' ∧ match o with
  | some v => ∃ a n cap, e = .returned (.tuple #[vv v.key v.seq v.mkr v.data a n cap, .int .i64 0]) ∧ v.l.length = n ∧ Ow w.heap.size w' (.slice a n cap) v.l
  | none => e = .returned (.tuple #[vv [] 0 false [] none 0 0, .int .i64 4])
theorem results_cell_tmp {fn : Func} {p t : Tmp} {ty : TypeId} (h : fn.results = #[.cell p ty, .tmp t]) (tmps : Array Value) (P : Program) (w : World) :
    (results fn tmps).run P w = ((asAddr (tmps.getD p undef)).run P w).andThen fun a w₁ => ((loadVar ty a).run P w₁).andThen fun v w₂ => .ok (.tuple #[v, tmps.getD t undef]) w₂ := by
  simp only [results, h]
  simp [Sem.run_bind, Result.andThen]
theorem Cg.below {g : Nat} {w w' : World} (h : Cg g w w') {B : Nat} (hB : B ≤ g) : Below B w w' := h.lo.mono hB
theorem Ow.asSl {base : Nat} {w : World} {a : Option Addr} {n c : Nat} {l : List En} (h : Ow base w (.slice a n c) l) : Sl w a c l := by
  obtain ⟨a', c', e', s'⟩ := h.sl
  injection e' with e1 e2 e3
  subst e1 e3
  exact s'
theorem pV_l (b : List UInt8) : (pV b).l = [] ∨ (pV b).l = psL (cn b) (r5 b) := by
  unfold pV
  by_cases h : kd b = 1
  · left; rw [if_pos h]
  · right; rw [if_neg h]
theorem pV_len (b : List UInt8) : (pV b).l.length ≤ 255 := by
  rcases pV_l b with h | h
  · rw [h]; simp
  · have h2 : (pV b).l.length = cn b := by rw [h]; exact psL_len _ _
    have : cn b < 256 := vl_small (w := 1) (r4 b)
    omega
set_option maxHeartbeats 4000000 in
theorem read_any (b : List UInt8) (w : World) (hb : b.length ≤ 9223372036854775807) : Calls Try.prog 10 #[str b] w (RdP w (rdV b)) := by
  obtain ⟨hy, hnn⟩ := rdV_prog b
  have hv := fun w g h => rversion_any b w g h hb
  have hpl := pV_len b
  have hwr := fun w a n cap h1 h2 => wrong_any (pV b) w a n cap h1 h2 (by omega)
  generalize pB b (b1 b || decide (2 ≤ kd b)) = Q at *
  generalize pR b = RR at *
  generalize pV b = V at *
  generalize rdV b = O at *
  have z0 : Bv (w.alloc (.cells #[.string ⟨#[]⟩, .int .i64 0, .bool false, .string ⟨#[]⟩, .slice none 0 0] 24)) w.heap.size (.string ⟨#[]⟩) (.int .i64 0) (.bool false) (.string ⟨#[]⟩) (.slice none 0 0) := Bv.new w _ _ _ _ _
  have B0 := (Below.refl w.heap.size w).alloc (Nat.le_refl _) (.cells #[.string ⟨#[]⟩, .int .i64 0, .bool false, .string ⟨#[]⟩, .slice none 0 0] 24)
  go_enter Try.func10, Try.ntmps10
  go_wp2_with fail
  have R1 : RB ((w.alloc (.cells #[.string ⟨#[]⟩, .int .i64 0, .bool false, .string ⟨#[]⟩, .slice none 0 0] 24)).alloc (.cells #[.string ⟨b.toArray⟩, .bool false] 47)) (w.heap.size + 1) b false := by
    have : RB ((w.alloc (.cells #[.string ⟨#[]⟩, .int .i64 0, .bool false, .string ⟨#[]⟩, .slice none 0 0] 24)).alloc (.cells #[.string ⟨b.toArray⟩, .bool false] 47)) (w.alloc (.cells #[.string ⟨#[]⟩, .int .i64 0, .bool false, .string ⟨#[]⟩, .slice none 0 0] 24)).heap.size b false := heap_alloc_new _ _
    rw [World.size_alloc] at this
    exact this
  have ba := (Below.refl (w.alloc (.cells #[.string ⟨#[]⟩, .int .i64 0, .bool false, .string ⟨#[]⟩, .slice none 0 0] 24)).heap.size (w.alloc (.cells #[.string ⟨#[]⟩, .int .i64 0, .bool false, .string ⟨#[]⟩, .slice none 0 0] 24))).alloc (Nat.le_refl _) (.cells #[.string ⟨b.toArray⟩, .bool false] 47)
  have z1 := z0.later ba
  have B1 := B0.trans (ba.mono B0.size)
  clear z0 B0 ba
  generalize (w.alloc (.cells #[.string ⟨#[]⟩, .int .i64 0, .bool false, .string ⟨#[]⟩, .slice none 0 0] 24)).alloc (.cells #[.string ⟨b.toArray⟩, .bool false] 47) = W1 at *
  with_reducible refine Calls.mono (hv _ _ R1) ?_
  rintro e w2 ⟨av, nv, cv, rfl, hn, o2, R2, C2⟩
  dsimp only
  have hs1 := R1.lt
  have z2 : Bv w2 w.heap.size (.string ⟨#[]⟩) (.int .i64 0) (.bool false) (.string ⟨#[]⟩) (.slice none 0 0) := by
    unfold Bv; rw [C2.lo.block _ (by omega)]; exact z1
  have B2 := B1.trans (C2.below (B := w.heap.size) (by omega))
  have hs2 := C2.lo.size
  obtain ⟨key, seq, mk, data, l⟩ := V
  simp only at hn o2 hwr hy hnn hpl ⊢
  have hb3 := (Below.refl w2.heap.size w2).alloc (Nat.le_refl _) (.cells #[str key, .int .i64 seq, .bool mk, str data, .slice av nv cv] 24)
  have v3 := Bv.new w2 (str key) (.int .i64 seq) (.bool mk) (str data) (.slice av nv cv)
  have R3 := RB.later R2 hb3
  have z3 := z2.later hb3
  have B3 := B2.trans (hb3.mono B2.size)
  have o3 := o2.later hb3
  clear hv R1 z1 B1 C2 R2 o2 z2 B2
  generalize hW3 : w2.alloc (.cells #[str key, .int .i64 seq, .bool mk, str data, .slice av nv cv] 24) = W3 at *
  obtain ⟨c0, c1, _⟩ := RB.cells R3
  obtain ⟨x0, x1, x2, x3, x4, _⟩ := v3.cells
  obtain ⟨q0, q1, q2, q3, q4, qf⟩ := z3.cells
  have qf0 := qf 0
  have qf1 := qf 1
  have qf2 := qf 2
  have qf3 := qf 3
  have qf4 := qf 4
  clear qf
  have HN : Hid (∀ W4, Bv W4 w.heap.size (.string ⟨#[]⟩) (.int .i64 0) (.bool false) (.string ⟨#[]⟩) (.slice none 0 0) → Below w.heap.size w W4 → O = none → RdP w O (.returned (.tuple #[vv [] 0 false [] none 0 0, .int .i64 4])) W4) := ⟨fun W4 _ hB hO => by rw [hO]; exact ⟨hB, rfl⟩⟩
  cases Q with
  | true =>
    have hO : O = none := hnn (by rintro ⟨h1, h2, h3⟩; cases h1)
    have z4 := z3.s5 (.string ⟨#[]⟩) (.int .i64 0) (.bool false) (.string ⟨#[]⟩) (.slice none 0 0)
    have B4 := Below.s5 B3 (R := w.heap.size) (Nat.le_refl _) (.string ⟨#[]⟩) (.int .i64 0) (.bool false) (.string ⟨#[]⟩) (.slice none 0 0)
    have HX := Hid.mk (HN.out _ z4 B4 hO)
    generalize RdP w O = PP at *
    clear hy hnn hO o3
    go_wp2_with fail
    rw [s5_eq]
    generalize s5 W3 w.heap.size (.string ⟨#[]⟩) (.int .i64 0) (.bool false) (.string ⟨#[]⟩) (.slice none 0 0) = W4 at *
    obtain ⟨g0, g1, g2, g3, g4, _⟩ := z4.cells
    refine bodyPost_ret (v := .tuple #[vv [] 0 false [] none 0 0, .int .i64 4]) ?_ rfl HX.out
    rw [results_cell_tmp rfl]
    go_simp
  | false =>
    by_cases hr0 : RR = []
    · subst hr0
      have hw3 := hwr W3 av nv cv hn o3.asSl.at'
      have HP : Hid (∀ W4, Below W3.heap.size W3 W4 → Bv W4 w.heap.size (.string ⟨#[]⟩) (.int .i64 0) (.bool false) (.string ⟨#[]⟩) (.slice none 0 0) ∧ Bv W4 w2.heap.size (str key) (.int .i64 seq) (.bool mk) (str data) (.slice av nv cv) ∧ Below w.heap.size w W4 ∧ Ow W1.heap.size W4 (.slice av nv cv) l) := ⟨fun W4 h => ⟨z3.later h, v3.later h, B3.trans (h.mono B3.size), o3.later h⟩⟩
      have hW1w : (Value.slice av nv cv).ownBlock ≠ some w.heap.size := fun q => by
        have h1 := (o3.own.lt _ q).1
        omega
      by_cases hE : rtE ⟨key, seq, mk, data, l⟩ = 0
      · have hO : O = some ⟨key, seq, mk, data, l⟩ := hy ⟨rfl, rfl, hE⟩
        rw [hE] at hw3
        subst hO
        clear hy hnn HN hwr hE
        go_wp2_with fail
        with_reducible refine Calls.mono hw3 ?_
        rintro e W4 ⟨rfl, b4⟩
        dsimp only
        obtain ⟨z4, v4, B4, o4⟩ := HP.out W4 b4
        clear x0 x1 x2 x3 x4 c0 c1 q0 q1 q2 q3 q4 qf0 qf1 qf2 qf3 qf4 z3 v3 B3 o3 hw3 hW3 hb3 R3 HP b4
        obtain ⟨x0, x1, x2, x3, x4, _⟩ := v4.cells
        obtain ⟨q0, q1, q2, q3, q4, qf⟩ := z4.cells
        have qf0 := qf 0
        have qf1 := qf 1
        have qf2 := qf 2
        have qf3 := qf 3
        have qf4 := qf 4
        clear qf
        go_wp2_with fail
        rw [s5_eq]
        have z5 := z4.s5 (str key) (.int .i64 seq) (.bool mk) (str data) (.slice av nv cv)
        have B5 := Below.s5 B4 (R := w.heap.size) (Nat.le_refl _) (str key) (.int .i64 seq) (.bool mk) (str data) (.slice av nv cv)
        have o5 := o4.s5 hW1w (str key) (.int .i64 seq) (.bool mk) (str data) (.slice av nv cv)
        generalize s5 W4 w.heap.size (str key) (.int .i64 seq) (.bool mk) (str data) (.slice av nv cv) = W5 at *
        obtain ⟨g0, g1, g2, g3, g4, _⟩ := z5.cells
        refine bodyPost_ret (v := .tuple #[vv key seq mk data av nv cv, .int .i64 0]) ?_ rfl ⟨B5, av, nv, cv, rfl, hn, o5.base (by omega)⟩
        rw [results_cell_tmp rfl]
        go_simp
      · have hO : O = none := hnn (by rintro ⟨h1, h2, h3⟩; exact hE h3)
        have hE2 : (rtE ⟨key, seq, mk, data, l⟩ == 0) = false := by rw [beq_eq_false_iff_ne]; exact hE
        generalize rtE ⟨key, seq, mk, data, l⟩ = EE at *
        clear hE hwr hy hnn
        go_wp2_with fail
        with_reducible refine Calls.mono hw3 ?_
        rintro e W4 ⟨rfl, b4⟩
        dsimp only
        obtain ⟨z4, v4, B4, o4⟩ := HP.out W4 b4
        clear x0 x1 x2 x3 x4 c0 c1 q0 q1 q2 q3 q4 qf0 qf1 qf2 qf3 qf4 z3 v3 B3 o3 hw3 hW3 hb3 R3 HP b4 o4 v4
        obtain ⟨q0, q1, q2, q3, q4, qf⟩ := z4.cells
        have qf0 := qf 0
        have qf1 := qf 1
        have qf2 := qf 2
        have qf3 := qf 3
        have qf4 := qf 4
        clear qf
        have z5 := z4.s5 (.string ⟨#[]⟩) (.int .i64 0) (.bool false) (.string ⟨#[]⟩) (.slice none 0 0)
        have B5 := Below.s5 B4 (R := w.heap.size) (Nat.le_refl _) (.string ⟨#[]⟩) (.int .i64 0) (.bool false) (.string ⟨#[]⟩) (.slice none 0 0)
        have HX := Hid.mk (HN.out _ z5 B5 hO)
        generalize RdP w O = PP at *
        clear hO
        go_wp2_with fail
        rw [s5_eq]
        generalize s5 W4 w.heap.size (.string ⟨#[]⟩) (.int .i64 0) (.bool false) (.string ⟨#[]⟩) (.slice none 0 0) = W5 at *
        obtain ⟨g0, g1, g2, g3, g4, _⟩ := z5.cells
        refine bodyPost_ret (v := .tuple #[vv [] 0 false [] none 0 0, .int .i64 4]) ?_ rfl HX.out
        rw [results_cell_tmp rfl]
        go_simp
    · have hO : O = none := hnn (by rintro ⟨h1, h2, h3⟩; exact hr0 h2)
      have hd : (RR == []) = false := by rw [beq_eq_false_iff_ne]; exact hr0
      have z4 := z3.s5 (.string ⟨#[]⟩) (.int .i64 0) (.bool false) (.string ⟨#[]⟩) (.slice none 0 0)
      have B4 := Below.s5 B3 (R := w.heap.size) (Nat.le_refl _) (.string ⟨#[]⟩) (.int .i64 0) (.bool false) (.string ⟨#[]⟩) (.slice none 0 0)
      have HX := Hid.mk (HN.out _ z4 B4 hO)
      generalize RdP w O = PP at *
      clear hy hnn hO o3 hr0
      go_wp2_with fail
      rw [s5_eq]
      generalize s5 W3 w.heap.size (.string ⟨#[]⟩) (.int .i64 0) (.bool false) (.string ⟨#[]⟩) (.slice none 0 0) = W4 at *
      obtain ⟨g0, g1, g2, g3, g4, _⟩ := z4.cells
      refine bodyPost_ret (v := .tuple #[vv [] 0 false [] none 0 0, .int .i64 4]) ?_ rfl HX.out
      rw [results_cell_tmp rfl]
      go_simp
end Go.Proofs.Ytahdndmmakdamaa
