/- pairs, version, Read. -/
import Derived.Test.YtahdndmmakdamaaVr
namespace Go.Proofs.Ytahdndmmakdamaa
set_option linter.unusedVariables false
set_option linter.unusedSimpArgs false
open Go.RowKit
attribute [local go_sem ↓] Go.wp_at_zero Go.wp_at_succ
theorem RB.up {w w' : World} {g B : Nat} {r : List UInt8} {b : Bool} (h : RB w g r b) (hg : g < B) (hb : Below B w w') : RB w' g r b := by unfold RB; rw [hb.block g hg]; exact h
theorem Cg.up {g : Nat} {w w1 w2 : World} (h : Cg g w w1) (hg : g < w.heap.size) (hb : Below w.heap.size w1 w2) : Cg g w w2 := ⟨h.lo.trans (hb.mono (by omega)), fun k h1 h2 => (hb.block k h2).trans (h.hi k h1 h2)⟩
set_option maxHeartbeats 2000000 in
theorem pairs_any (n : Nat) (r : List UInt8) (b : Bool) (w : World) (g : Nat) (hR : RB w g r b) (hn : n ≤ 255) (hr : r.length ≤ 9223372036854775807) :
    Calls Try.prog 29 #[.pointer (some ⟨g, 0, none⟩), .int .i64 (n : Int)] w fun e w' => ∃ v, e = .returned v ∧ Ow w.heap.size w' v (psL n r) ∧ RB w' g (psR n r) (psB n r b) ∧ Cg g w w' := by
  have hg := hR.lt
  go_enter Try.func29, Try.ntmps29
  go_wp2_with fail
  go_loopw [5, 7] (fun v i wr => ∃ k : Nat, k ≤ n ∧ i = .int .i64 (k : Int) ∧ Hid (Ow w.heap.size wr v (psL k r) ∧ RB wr g (psR k r) (psB k r b) ∧ Cg g w wr)) (fun _ i _ => n - (intOf i).toNat)
  case atStart => exact ⟨0, by omega, rfl, ⟨Ow.nil _ _ (Nat.le_refl _), hR, Cg.refl _ _⟩⟩
  case round =>
    obtain ⟨k, hk, rfl, ⟨o1, R1, C1⟩⟩ := hrel
    by_cases hlt : k < n
    · have hd : decide ((k : Int) < (n : Int)) = true := decide_eq_true (by omega)
      have hl1 := Nat.le_trans (psR_len k r) hr
      have hl2 := Nat.le_trans (xr_len 1 (psR k r)) hl1
      have hlen : (psL k r).length ≤ 4500000000000 := by rw [psL_len]; omega
      have t1 := text_any 1 (psR k r) (psB k r b) wr g R1 (by omega) hl1
      have t2 : ∀ w', RB w' g (xr 1 (psR k r)) (xb 1 (psR k r) (psB k r b)) → Calls Try.prog 28 #[.pointer (some ⟨g, 0, none⟩), .int .i64 1] w' fun e w'' => e = .returned (str (xv 1 (xr 1 (psR k r)))) ∧ RB w'' g (psR (k + 1) r) (psB (k + 1) r b) ∧ Cg g w' w'' := fun w' h => text_any 1 _ _ w' g h (by omega) hl2
      have HL : Hid (psL (k + 1) r = psL k r ++ [⟨xv 1 (psR k r), xv 1 (xr 1 (psR k r))⟩]) := ⟨rfl⟩
      generalize xv 1 (xr 1 (psR k r)) = V at *
      generalize xv 1 (psR k r) = N at *
      generalize xr 1 (psR k r) = X at *
      generalize xb 1 (psR k r) (psB k r b) = Y at *
      have C1' := Hid.mk C1
      clear C1 R1
      go_wp2_with fail
      with_reducible refine Calls.mono t1 ?_
      rintro e w2 ⟨rfl, R2, C2⟩
      dsimp only
      go_wp2_with fail
      with_reducible refine Calls.mono (t2 w2 R2) ?_
      rintro e w3 ⟨rfl, R3, C3⟩
      dsimp only
      have o3 := o1.cg hg (C2.trans C3)
      have C13 := C1'.out.trans (C2.trans C3)
      clear t1 t2 R2 C2 C3 C1' o1
      go_wp2_with (refine app_oneB rfl _ _ rfl ⟨N, V⟩ rfl o3 rfl hlen rfl rfl ?_; intro v4 w4 o4 b4)
      exact ⟨⟨k + 1, by omega, by go_num, ⟨by rw [HL.out]; exact o4, RB.up R3 hg b4, C13.up hg b4⟩⟩, by simp [intOf]; omega⟩
    · obtain rfl : k = n := by omega
      have hd : decide ((k : Int) < (k : Int)) = false := decide_eq_false (by omega)
      have o1' := Hid.mk o1
      have R1' := Hid.mk R1
      have C1' := Hid.mk C1
      clear o1 R1 C1
      go_wp2_with fail
      go_ret
      exact ⟨_, rfl, o1'.out, R1'.out, C1'.out⟩
/-- a box with a version -/
def Bv (w : World) (g : Nat) (x y z u v : Value) : Prop := w.heap[g]? = some (.cells #[x, y, z, u, v] 24 (0, 0))
theorem Bv.lt {w : World} {g : Nat} {x y z u v : Value} (h : Bv w g x y z u v) : g < w.heap.size := (Array.getElem?_eq_some_iff.1 h).1
theorem Bv.cells {w : World} {g : Nat} {x y z u v : Value} (h : Bv w g x y z u v) : w.cell? ⟨g, 0, none⟩ = some x ∧ w.cell? ⟨g, 1, none⟩ = some y ∧ w.cell? ⟨g, 2, none⟩ = some z ∧ w.cell? ⟨g, 3, none⟩ = some u ∧ w.cell? ⟨g, 4, none⟩ = some v ∧ ∀ j, w.frozen? ⟨g, j, none⟩ = false := by
  refine ⟨?_, ?_, ?_, ?_, ?_, fun j => frozen_of_row _ _ _ _ _ h⟩
  all_goals rw [cell_of_row _ _ _ _ _ _ h]; rfl
theorem Bv.later {w w' : World} {g : Nat} {x y z u v : Value} (h : Bv w g x y z u v) (hb : Below w.heap.size w w') : Bv w' g x y z u v := by
  unfold Bv
  rw [hb.block g h.lt]; exact h
theorem Bv.drew {w : World} {g : Nat} {x y z u v : Value} (h : Bv w g x y z u v) : Bv w.drew g x y z u v := h
theorem Bv.cg {w w' : World} {g g0 : Nat} {x y z u v : Value} (h : Bv w g x y z u v) (hg : g0 < g) (hb : Cg g0 w w') : Bv w' g x y z u v := hb.row hg h
theorem Bv.new (w : World) (x y z u v : Value) : Bv (w.alloc (.cells #[x, y, z, u, v] 24)) w.heap.size x y z u v := heap_alloc_new _ _
theorem Bv.other {w : World} {g : Nat} {x y z u v : Value} (h : Bv w g x y z u v) {g2 j : Nat} (hg : g ≠ g2) (c : Value) : Bv (w.setCell ⟨g2, j, none⟩ c) g x y z u v := by
  unfold Bv
  rw [heap_setCell_other _ _ _ _ (by first | exact hg | exact hg.symm)]; exact h
theorem Bv.set0 {w : World} {g : Nat} {x y z u v : Value} (h : Bv w g x y z u v) (c : Value) : Bv (w.setCell ⟨g, 0, none⟩ c) g c y z u v := by
  unfold Bv
  rw [heap_setCell_same _ _ _ _ _ _ h]; rfl
theorem Bv.set1 {w : World} {g : Nat} {x y z u v : Value} (h : Bv w g x y z u v) (c : Value) : Bv (w.setCell ⟨g, 1, none⟩ c) g x c z u v := by
  unfold Bv
  rw [heap_setCell_same _ _ _ _ _ _ h]; rfl
theorem Bv.set2 {w : World} {g : Nat} {x y z u v : Value} (h : Bv w g x y z u v) (c : Value) : Bv (w.setCell ⟨g, 2, none⟩ c) g x y c u v := by
  unfold Bv
  rw [heap_setCell_same _ _ _ _ _ _ h]; rfl
theorem Bv.set3 {w : World} {g : Nat} {x y z u v : Value} (h : Bv w g x y z u v) (c : Value) : Bv (w.setCell ⟨g, 3, none⟩ c) g x y z c v := by
  unfold Bv
  rw [heap_setCell_same _ _ _ _ _ _ h]; rfl
theorem Bv.set4 {w : World} {g : Nat} {x y z u v : Value} (h : Bv w g x y z u v) (c : Value) : Bv (w.setCell ⟨g, 4, none⟩ c) g x y z u c := by
  unfold Bv
  rw [heap_setCell_same _ _ _ _ _ _ h]; rfl
theorem RB.other {w : World} {g : Nat} {r : List UInt8} {b : Bool} (h : RB w g r b) {g2 j : Nat} (hg : g ≠ g2) (c : Value) : RB (w.setCell ⟨g2, j, none⟩ c) g r b := by
  unfold RB
  rw [heap_setCell_other _ _ _ _ (by first | exact hg | exact hg.symm)]; exact h
theorem Ow.other {base : Nat} {w : World} {v : Value} {l : List En} (h : Ow base w v l) {g j : Nat} (hg : v.ownBlock ≠ some g) (c : Value) : Ow base (w.setCell ⟨g, j, none⟩ c) v l :=
  ⟨ownsRow_setCell_other h.own (a := ⟨g, _, none⟩) hg _, by simpa using h.le⟩
theorem Cg.box {g : Nat} {w w' : World} (h : Cg g w w') {g2 : Nat} (hw : g < w.heap.size) (hg : w.heap.size ≤ g2) (j : Nat) (c : Value) : Cg g w (w'.setCell ⟨g2, j, none⟩ c) :=
  h.up hw ((Below.refl _ _).setCell (p := ⟨g2, j, none⟩) hg c)
theorem Cg.alloc {g : Nat} {w w' : World} (h : Cg g w w') (hw : g < w.heap.size) (o : Obj) : Cg g w (w'.alloc o) :=
  h.up hw ((Below.refl _ _).alloc h.lo.size o)
theorem sgn_wrap (n : Nat) (h : n < 18446744073709551616) : IntKind.i64.wrap (n : Int) = sgn n := by
  rw [IntKind.wrap_i64]
  unfold sgn
  split <;> omega
/-- a whole version is laid into a box -/
def s5 (w : World) (R : Nat) (a b c d e : Value) : World := ((((w.setCell ⟨R, 0, none⟩ a).setCell ⟨R, 1, none⟩ b).setCell ⟨R, 2, none⟩ c).setCell ⟨R, 3, none⟩ d).setCell ⟨R, 4, none⟩ e
theorem s5_eq (w : World) (R : Nat) (a b c d e : Value) : ((((w.setCell ⟨R, 0, none⟩ a).setCell ⟨R, 1, none⟩ b).setCell ⟨R, 2, none⟩ c).setCell ⟨R, 3, none⟩ d).setCell ⟨R, 4, none⟩ e = s5 w R a b c d e := rfl
theorem Bv.s5 {w : World} {R : Nat} {x y z u v : Value} (h : Bv w R x y z u v) (a b c d e : Value) : Bv (s5 w R a b c d e) R a b c d e := ((((h.set0 a).set1 b).set2 c).set3 d).set4 e
theorem RB.s5 {w : World} {g : Nat} {r : List UInt8} {q : Bool} (h : RB w g r q) {R : Nat} (hg : g ≠ R) (a b c d e : Value) : RB (s5 w R a b c d e) g r q := ((((RB.other h hg a).other hg b).other hg c).other hg d).other hg e
theorem Ow.s5 {base : Nat} {w : World} {v : Value} {l : List En} (h : Ow base w v l) {R : Nat} (hg : v.ownBlock ≠ some R) (a b c d e : Value) : Ow base (s5 w R a b c d e) v l := ((((h.other hg a).other hg b).other hg c).other hg d).other hg e
theorem Cg.s5 {g : Nat} {w w' : World} (h : Cg g w w') (hw : g < w.heap.size) {R : Nat} (hR : w.heap.size ≤ R) (a b c d e : Value) : Cg g w (s5 w' R a b c d e) :=
  ((((h.box hw hR 0 a).box hw hR 1 b).box hw hR 2 c).box hw hR 3 d).box hw hR 4 e
theorem Below.s5 {B : Nat} {w w' : World} (h : Below B w w') {R : Nat} (hR : B ≤ R) (a b c d e : Value) : Below B w (s5 w' R a b c d e) :=
  ((((h.setCell (p := ⟨R, 0, none⟩) hR a).setCell (p := ⟨R, 1, none⟩) hR b).setCell (p := ⟨R, 2, none⟩) hR c).setCell (p := ⟨R, 3, none⟩) hR d).setCell (p := ⟨R, 4, none⟩) hR e
theorem results_cell1 {fn : Func} {p : Tmp} {ty : TypeId} (h : fn.results = #[.cell p ty]) (tmps : Array Value) (P : Program) (w : World) :
    (results fn tmps).run P w = ((asAddr (tmps.getD p undef)).run P w).andThen fun a w₁ => (loadVar ty a).run P w₁ := by
  simp only [results, h]
  simp [Sem.run_bind, Result.andThen]
theorem Cg.sub {g : Nat} {w w1 w2 : World} (a : Cg g w w1) (b : Cg g w1 w2) : Cg g w w2 := a.trans b
set_option maxHeartbeats 4000000 in
theorem rversion_any (r : List UInt8) (w : World) (g : Nat) (hR : RB w g r false) (hr : r.length ≤ 9223372036854775807) :
    Calls Try.prog 21 #[.pointer (some ⟨g, 0, none⟩)] w fun e w' => ∃ a n cap, e = .returned (vv (pV r).key (pV r).seq (pV r).mkr (pV r).data a n cap) ∧ (pV r).l.length = n ∧ Ow w.heap.size w' (.slice a n cap) (pV r).l ∧ RB w' g (pR r) (pB r (b1 r || decide (2 ≤ kd r))) ∧ Cg g w w' := by
  have hg := hR.lt
  have n1 : ∀ w, RB w g r false → Calls Try.prog 27 #[.pointer (some ⟨g, 0, none⟩), .int .i64 1] w fun e w' => e = .returned (.int .u64 (kd r : Int)) ∧ RB w' g (r1 r) (b1 r) ∧ Cg g w w' := fun w h => number_any 1 r false w g h (by omega) hr
  have bz := (Below.refl w.heap.size w).alloc (Nat.le_refl _) (.cells #[.string ⟨#[]⟩, .int .i64 0, .bool false, .string ⟨#[]⟩, .slice none 0 0] 24)
  have z0 : Bv (w.alloc (.cells #[.string ⟨#[]⟩, .int .i64 0, .bool false, .string ⟨#[]⟩, .slice none 0 0] 24)) w.heap.size (.string ⟨#[]⟩) (.int .i64 0) (.bool false) (.string ⟨#[]⟩) (.slice none 0 0) := Bv.new w _ _ _ _ _
  have R0 := hR.later bz
  have C0 := Cg.of bz hg
  have l1 : (r1 r).length ≤ 9223372036854775807 := Nat.le_trans (tr_len _ _) hr
  have l2 : (r2 r).length ≤ 9223372036854775807 := Nat.le_trans (tr_len _ _) l1
  have l3 : (r3 r).length ≤ 9223372036854775807 := Nat.le_trans (xr_len _ _) l2
  have l4 : (r4 r).length ≤ 9223372036854775807 := Nat.le_trans (xr_len _ _) l3
  have l5 : (r5 r).length ≤ 9223372036854775807 := Nat.le_trans (tr_len _ _) l4
  have hk256 : kd r < 256 := vl_small (w := 1) r
  have hc256 : cn r < 256 := vl_small (w := 1) (r4 r)
  have hs64 : sq r < 18446744073709551616 := vl_small (w := 8) (r1 r)
  have hsg := sgn_wrap (sq r) hs64
  have hsc := sgn_wrap (cn r) (by omega)
  have n2 : ∀ w q, RB w g (r1 r) q → Calls Try.prog 27 #[.pointer (some ⟨g, 0, none⟩), .int .i64 8] w fun e w' => e = .returned (.int .u64 (sq r : Int)) ∧ RB w' g (r2 r) (tb 8 (r1 r) q) ∧ Cg g w w' := fun w q h => number_any 8 (r1 r) q w g h (by omega) l1
  have n3 : ∀ w q, RB w g (r2 r) (tb 8 (r1 r) q) → Calls Try.prog 28 #[.pointer (some ⟨g, 0, none⟩), .int .i64 1] w fun e w' => e = .returned (str (ky r)) ∧ RB w' g (r3 r) (b3 r q) ∧ Cg g w w' := fun w q h => text_any 1 (r2 r) _ w g h (by omega) l2
  have n4 : ∀ w q, RB w g (r3 r) (b3 r q) → Calls Try.prog 28 #[.pointer (some ⟨g, 0, none⟩), .int .i64 2] w fun e w' => e = .returned (str (da r)) ∧ RB w' g (r4 r) (b4 r q) ∧ Cg g w w' := fun w q h => text_any 2 (r3 r) _ w g h (by omega) l3
  have n5 : ∀ w q, RB w g (r4 r) (b4 r q) → Calls Try.prog 27 #[.pointer (some ⟨g, 0, none⟩), .int .i64 1] w fun e w' => e = .returned (.int .u64 (cn r : Int)) ∧ RB w' g (r5 r) (b5 r q) ∧ Cg g w w' := fun w q h => number_any 1 (r4 r) _ w g h (by omega) l4
  have n6 : ∀ w q, RB w g (r5 r) (b5 r q) → Calls Try.prog 29 #[.pointer (some ⟨g, 0, none⟩), .int .i64 (cn r : Int)] w fun e w' => ∃ v, e = .returned v ∧ Ow w.heap.size w' v (psL (cn r) (r5 r)) ∧ RB w' g (psR (cn r) (r5 r)) (psB (cn r) (r5 r) (b5 r q)) ∧ Cg g w w' := fun w q h => pairs_any (cn r) (r5 r) _ w g h (by omega) l5
  by_cases hk : kd r = 1
  · have eV : pV r = ⟨ky r, sgn (sq r), true, [], []⟩ := by unfold pV; rw [if_pos hk]
    have eR : pR r = r3 r := by unfold pR; rw [if_pos hk]
    have eB : pB r (b1 r || decide (2 ≤ kd r)) = b3 r (b1 r) := by unfold pB; rw [if_pos hk, hk]; simp
    rw [eV, eR, eB]
    rw [hk] at n1
    clear n4 n5 n6 eV eR eB hsc
    generalize sgn (sq r) = Z at *
    generalize sq r = Y at *
    generalize ky r = X at *
    go_enter Try.func21, Try.ntmps21
    go_wp2_with fail
    with_reducible refine Calls.mono (n1 _ R0) ?_
    rintro e w1 ⟨rfl, R1, C1⟩
    dsimp only
    have z1 := z0.cg hg C1
    have C01 := C0.trans C1
    have hs1 := z1.lt
    have v1 : Bv ((w1).alloc (.cells #[.string ⟨#[]⟩, .int .i64 0, .bool true, .string ⟨#[]⟩, .slice none 0 0] 24)) w1.heap.size (.string ⟨#[]⟩) (.int .i64 0) (.bool true) (.string ⟨#[]⟩) (.slice none 0 0) := by have := Bv.new (w1) (.string ⟨#[]⟩) (.int .i64 0) (.bool true) (.string ⟨#[]⟩) (.slice none 0 0); simpa using this
    have ba := (Below.refl (w1).heap.size (w1)).alloc (Nat.le_refl _) (.cells #[.string ⟨#[]⟩, .int .i64 0, .bool true, .string ⟨#[]⟩, .slice none 0 0] 24)
    have R2 := RB.later R1 ba
    have C2 := C01.alloc hg (.cells #[.string ⟨#[]⟩, .int .i64 0, .bool true, .string ⟨#[]⟩, .slice none 0 0] 24)
    have z2 := z1.later ba
    have hgr : g < w1.heap.size := Nat.lt_trans hg hs1
    clear n1 R1 ba z0 z1 C0 R0 bz
    go_wp2_with fail
    generalize (w1).alloc (.cells #[.string ⟨#[]⟩, .int .i64 0, .bool true, .string ⟨#[]⟩, .slice none 0 0] 24) = W2 at *
    generalize w1.heap.size = gv at *
    with_reducible refine Calls.mono (n2 _ _ R2) ?_
    rintro e w3 ⟨rfl, R3, C3⟩
    dsimp only
    have v3 := v1.cg hgr C3
    have z3 := z2.cg hg C3
    have C03 := C2.trans C3
    obtain ⟨_, _, _, _, _, vf⟩ := v3.cells
    have vf1 := vf 1
    have v4 := v3.set1 (.int .i64 Z)
    have z4 := z3.other (g2 := gv) (j := 1) (by omega) (.int .i64 Z)
    have R4 := RB.other R3 (g2 := gv) (j := 1) (by omega) (.int .i64 Z)
    have C4 := C03.box hg (g2 := gv) (by omega) 1 (.int .i64 Z)
    clear n2 R2 C2 C03 v1 z2 R3 C3 z3 v3 vf
    go_wp2_with fail
    generalize w3.setCell ⟨gv, 1, none⟩ (.int .i64 Z) = W4 at *
    clear vf1
    with_reducible refine Calls.mono (n3 _ _ R4) ?_
    rintro e w5 ⟨rfl, R5, C5⟩
    dsimp only
    have v5 := v4.cg hgr C5
    have z5 := z4.cg hg C5
    have C05 := C4.trans C5
    obtain ⟨_, _, _, _, _, vf⟩ := v5.cells
    have vf0 := vf 0
    have v6 := v5.set0 (str X)
    have z6 := z5.other (g2 := gv) (j := 0) (by omega) (str X)
    have R6 := RB.other R5 (g2 := gv) (j := 0) (by omega) (str X)
    have C6 := C05.box hg (g2 := gv) (by omega) 0 (str X)
    obtain ⟨p0, p1, p2, p3, p4, _⟩ := v6.cells
    clear n3 R4 C4 C05 v4 z4 R5 C5 z5 v5 vf
    obtain ⟨q0, q1, q2, q3, q4, qf⟩ := z6.cells
    have qf0 := qf 0
    have qf1 := qf 1
    have qf2 := qf 2
    have qf3 := qf 3
    have qf4 := qf 4
    clear qf
    go_wp2_with fail
    generalize w5.setCell ⟨gv, 0, none⟩ (str X) = W6 at *
    rw [s5_eq]
    have z7 := z6.s5 (str X) (.int .i64 Z) (.bool true) (.string ⟨#[]⟩) (.slice none 0 0)
    have R7 := RB.s5 R6 (R := w.heap.size) (by omega) (str X) (.int .i64 Z) (.bool true) (.string ⟨#[]⟩) (.slice none 0 0)
    have C7 := C6.s5 hg (R := w.heap.size) (Nat.le_refl _) (str X) (.int .i64 Z) (.bool true) (.string ⟨#[]⟩) (.slice none 0 0)
    generalize s5 W6 w.heap.size (str X) (.int .i64 Z) (.bool true) (.string ⟨#[]⟩) (.slice none 0 0) = W7 at *
    obtain ⟨g0, g1, g2, g3, g4, _⟩ := z7.cells
    refine bodyPost_ret (v := vv X Z true [] none 0 0) ?_ rfl ⟨none, 0, 0, rfl, rfl, Ow.nil _ _ C7.lo.size, R7, C7⟩
    rw [results_cell1 rfl]
    go_simp
  · have eV : pV r = ⟨ky r, sgn (sq r), false, da r, psL (cn r) (r5 r)⟩ := by unfold pV; rw [if_neg hk]
    have eR : pR r = psR (cn r) (r5 r) := by unfold pR; rw [if_neg hk]
    have eB : ∀ q, pB r q = psB (cn r) (r5 r) (b5 r q) := fun q => by unfold pB; rw [if_neg hk]
    have hpl : (psL (cn r) (r5 r)).length = cn r := psL_len _ _
    rw [eV, eR, eB]
    have hsc' : sgn (cn r) = (cn r : Int) := by unfold sgn; rw [if_pos (by omega)]
    rw [hsc'] at hsc
    generalize psL (cn r) (r5 r) = PL at *
    by_cases hk2 : 2 ≤ kd r
    · have eQ : (b1 r || decide (2 ≤ kd r)) = true := by rw [decide_eq_true hk2]; simp
      rw [eQ]
      have d2 : decide ((2 : Int) ≤ (kd r : Int)) = true := decide_eq_true (by omega)
      have d3 : ((kd r : Int) == 1) = false := by rw [beq_eq_false_iff_ne]; omega
      have d4 : IntKind.u8.wrap (kd r : Int) = (kd r : Int) := by rw [IntKind.wrap_u8]; omega
      generalize kd r = KK at *
      clear eV eR eB eQ hsc'
      generalize sgn (sq r) = Z at *
      generalize sq r = Y at *
      generalize ky r = X at *
      generalize da r = DD at *
      go_enter Try.func21, Try.ntmps21
      go_wp2_with fail
      with_reducible refine Calls.mono (n1 _ R0) ?_
      rintro e w1 ⟨rfl, R1, C1⟩
      dsimp only
      have z1 := z0.cg hg C1
      have C01 := C0.trans C1
      obtain ⟨_, _, rf⟩ := RB.cells R1
      have rf1 := rf 1
      have R1' := RB.set1 R1 true
      have z1' := z1.other (g2 := g) (j := 1) (by omega) (.bool true)
      have C1' := C01.trans (Cg.set g w1 1 (.bool true))
      clear R1 z1 C01 C1 rf
      have hs1 := z1'.lt
      rw [World.size_setCell] at hs1
      have v1 : Bv ((w1.setCell ⟨g, 1, none⟩ (.bool true)).alloc (.cells #[.string ⟨#[]⟩, .int .i64 0, .bool false, .string ⟨#[]⟩, .slice none 0 0] 24)) w1.heap.size (.string ⟨#[]⟩) (.int .i64 0) (.bool false) (.string ⟨#[]⟩) (.slice none 0 0) := by have := Bv.new (w1.setCell ⟨g, 1, none⟩ (.bool true)) (.string ⟨#[]⟩) (.int .i64 0) (.bool false) (.string ⟨#[]⟩) (.slice none 0 0); simpa using this
      have ba := (Below.refl (w1.setCell ⟨g, 1, none⟩ (.bool true)).heap.size (w1.setCell ⟨g, 1, none⟩ (.bool true))).alloc (Nat.le_refl _) (.cells #[.string ⟨#[]⟩, .int .i64 0, .bool false, .string ⟨#[]⟩, .slice none 0 0] 24)
      have R2 := RB.later R1' ba
      have C2 := C1'.alloc hg (.cells #[.string ⟨#[]⟩, .int .i64 0, .bool false, .string ⟨#[]⟩, .slice none 0 0] 24)
      have z2 := z1'.later ba
      have hgr : g < w1.heap.size := Nat.lt_trans hg hs1
      clear n1 R1' ba z0 z1' C0 R0 bz
      go_wp2_with fail
      clear rf1
      generalize (w1.setCell ⟨g, 1, none⟩ (.bool true)).alloc (.cells #[.string ⟨#[]⟩, .int .i64 0, .bool false, .string ⟨#[]⟩, .slice none 0 0] 24) = W2 at *
      generalize w1.heap.size = gv at *
      with_reducible refine Calls.mono (n2 _ _ R2) ?_
      rintro e w3 ⟨rfl, R3, C3⟩
      dsimp only
      have v3 := v1.cg hgr C3
      have z3 := z2.cg hg C3
      have C03 := C2.trans C3
      obtain ⟨_, _, _, _, _, vf⟩ := v3.cells
      have vf1 := vf 1
      have v4 := v3.set1 (.int .i64 Z)
      have z4 := z3.other (g2 := gv) (j := 1) (by omega) (.int .i64 Z)
      have R4 := RB.other R3 (g2 := gv) (j := 1) (by omega) (.int .i64 Z)
      have C4 := C03.box hg (g2 := gv) (by omega) 1 (.int .i64 Z)
      clear n2 R2 C2 C03 v1 z2 R3 C3 z3 v3 vf
      go_wp2_with fail
      generalize w3.setCell ⟨gv, 1, none⟩ (.int .i64 Z) = W4 at *
      clear vf1
      with_reducible refine Calls.mono (n3 _ _ R4) ?_
      rintro e w5 ⟨rfl, R5, C5⟩
      dsimp only
      have v5 := v4.cg hgr C5
      have z5 := z4.cg hg C5
      have C05 := C4.trans C5
      obtain ⟨_, _, _, _, _, vf⟩ := v5.cells
      have vf0 := vf 0
      have v6 := v5.set0 (str X)
      have z6 := z5.other (g2 := gv) (j := 0) (by omega) (str X)
      have R6 := RB.other R5 (g2 := gv) (j := 0) (by omega) (str X)
      have C6 := C05.box hg (g2 := gv) (by omega) 0 (str X)
      obtain ⟨p0, p1, p2, p3, p4, _⟩ := v6.cells
      clear n3 R4 C4 C05 v4 z4 R5 C5 z5 v5 vf
      go_wp2_with fail
      generalize w5.setCell ⟨gv, 0, none⟩ (str X) = W6 at *
      clear vf0 p0 p1 p2 p3 p4
      with_reducible refine Calls.mono (n4 _ _ R6) ?_
      rintro e w7 ⟨rfl, R7, C7⟩
      dsimp only
      have v7 := v6.cg hgr C7
      have z7 := z6.cg hg C7
      have C07 := C6.trans C7
      obtain ⟨_, _, _, _, _, vf⟩ := v7.cells
      have vf3 := vf 3
      have v8 := v7.set3 (str DD)
      have z8 := z7.other (g2 := gv) (j := 3) (by omega) (str DD)
      have R8 := RB.other R7 (g2 := gv) (j := 3) (by omega) (str DD)
      have C8 := C07.box hg (g2 := gv) (by omega) 3 (str DD)
      clear n4 R6 C6 C07 v6 z6 R7 C7 z7 v7 vf
      go_wp2_with fail
      generalize w7.setCell ⟨gv, 3, none⟩ (str DD) = W8 at *
      clear vf3
      with_reducible refine Calls.mono (n5 _ _ R8) ?_
      rintro e w9 ⟨rfl, R9, C9⟩
      dsimp only
      have v9 := v8.cg hgr C9
      have z9 := z8.cg hg C9
      have C09 := C8.trans C9
      clear n5 R8 C8 v8 z8 C9
      go_wp2_with fail
      with_reducible refine Calls.mono (n6 _ _ R9) ?_
      rintro e w10 ⟨vp, rfl, o10, R10, C10⟩
      dsimp only
      obtain ⟨ap, cp, rfl, _⟩ := o10.sl
      rw [hpl] at o10 ⊢
      have v10 := v9.cg hgr C10
      have z10 := z9.cg hg C10
      have C010 := C09.trans C10
      have hgvn : (Value.slice ap (cn r) cp).ownBlock ≠ some gv := fun q => by have h1 := (o10.own.lt _ q).1; have h2 := v9.lt; omega
      have hgrn : (Value.slice ap (cn r) cp).ownBlock ≠ some w.heap.size := fun q => by have h1 := (o10.own.lt _ q).1; have h2 := z9.lt; omega
      obtain ⟨_, _, _, _, _, vf⟩ := v10.cells
      have vf4 := vf 4
      have v11 := v10.set4 (.slice ap (cn r) cp)
      have z11 := z10.other (g2 := gv) (j := 4) (by omega) (.slice ap (cn r) cp)
      have R11 := RB.other R10 (g2 := gv) (j := 4) (by omega) (.slice ap (cn r) cp)
      have C11 := C010.box hg (g2 := gv) (by omega) 4 (.slice ap (cn r) cp)
      have o11 := Ow.other (o10.base (b' := w.heap.size) C09.lo.size) (j := 4) hgvn (.slice ap (cn r) cp)
      obtain ⟨p0, p1, p2, p3, p4, _⟩ := v11.cells
      obtain ⟨q0, q1, q2, q3, q4, qf⟩ := z11.cells
      have qf0 := qf 0
      have qf1 := qf 1
      have qf2 := qf 2
      have qf3 := qf 3
      have qf4 := qf 4
      clear qf vf
      clear n6 R9 C09 v9 z9 R10 C10 z10 v10 o10 C010
      go_wp2_with fail
      generalize w10.setCell ⟨gv, 4, none⟩ (.slice ap (cn r) cp) = W11 at *
      rw [s5_eq]
      have z12 := z11.s5 (str X) (.int .i64 Z) (.bool false) (str DD) (.slice ap (cn r) cp)
      have R12 := RB.s5 R11 (R := w.heap.size) (by omega) (str X) (.int .i64 Z) (.bool false) (str DD) (.slice ap (cn r) cp)
      have C12 := C11.s5 hg (R := w.heap.size) (Nat.le_refl _) (str X) (.int .i64 Z) (.bool false) (str DD) (.slice ap (cn r) cp)
      have o12 := o11.s5 hgrn (str X) (.int .i64 Z) (.bool false) (str DD) (.slice ap (cn r) cp)
      generalize s5 W11 w.heap.size (str X) (.int .i64 Z) (.bool false) (str DD) (.slice ap (cn r) cp) = W12 at *
      obtain ⟨g0, g1, g2, g3, g4, _⟩ := z12.cells
      refine bodyPost_ret (v := vv X Z false DD ap (cn r) cp) ?_ rfl ⟨ap, cn r, cp, rfl, hpl, o12, R12, C12⟩
      rw [results_cell1 rfl]
      go_simp
    · have eQ : (b1 r || decide (2 ≤ kd r)) = b1 r := by rw [decide_eq_false hk2]; simp
      have hk0 : kd r = 0 := by omega
      rw [eQ]
      rw [hk0] at n1
      clear eV eR eB eQ hsc'
      generalize sgn (sq r) = Z at *
      generalize sq r = Y at *
      generalize ky r = X at *
      generalize da r = DD at *
      go_enter Try.func21, Try.ntmps21
      go_wp2_with fail
      with_reducible refine Calls.mono (n1 _ R0) ?_
      rintro e w1 ⟨rfl, R1, C1⟩
      dsimp only
      have z1 := z0.cg hg C1
      have C01 := C0.trans C1
      have hs1 := z1.lt
      have v1 : Bv ((w1).alloc (.cells #[.string ⟨#[]⟩, .int .i64 0, .bool false, .string ⟨#[]⟩, .slice none 0 0] 24)) w1.heap.size (.string ⟨#[]⟩) (.int .i64 0) (.bool false) (.string ⟨#[]⟩) (.slice none 0 0) := by have := Bv.new (w1) (.string ⟨#[]⟩) (.int .i64 0) (.bool false) (.string ⟨#[]⟩) (.slice none 0 0); simpa using this
      have ba := (Below.refl (w1).heap.size (w1)).alloc (Nat.le_refl _) (.cells #[.string ⟨#[]⟩, .int .i64 0, .bool false, .string ⟨#[]⟩, .slice none 0 0] 24)
      have R2 := RB.later R1 ba
      have C2 := C01.alloc hg (.cells #[.string ⟨#[]⟩, .int .i64 0, .bool false, .string ⟨#[]⟩, .slice none 0 0] 24)
      have z2 := z1.later ba
      have hgr : g < w1.heap.size := Nat.lt_trans hg hs1
      clear n1 R1 ba z0 z1 C0 R0 bz
      go_wp2_with fail
      generalize (w1).alloc (.cells #[.string ⟨#[]⟩, .int .i64 0, .bool false, .string ⟨#[]⟩, .slice none 0 0] 24) = W2 at *
      generalize w1.heap.size = gv at *
      with_reducible refine Calls.mono (n2 _ _ R2) ?_
      rintro e w3 ⟨rfl, R3, C3⟩
      dsimp only
      have v3 := v1.cg hgr C3
      have z3 := z2.cg hg C3
      have C03 := C2.trans C3
      obtain ⟨_, _, _, _, _, vf⟩ := v3.cells
      have vf1 := vf 1
      have v4 := v3.set1 (.int .i64 Z)
      have z4 := z3.other (g2 := gv) (j := 1) (by omega) (.int .i64 Z)
      have R4 := RB.other R3 (g2 := gv) (j := 1) (by omega) (.int .i64 Z)
      have C4 := C03.box hg (g2 := gv) (by omega) 1 (.int .i64 Z)
      clear n2 R2 C2 C03 v1 z2 R3 C3 z3 v3 vf
      go_wp2_with fail
      generalize w3.setCell ⟨gv, 1, none⟩ (.int .i64 Z) = W4 at *
      clear vf1
      with_reducible refine Calls.mono (n3 _ _ R4) ?_
      rintro e w5 ⟨rfl, R5, C5⟩
      dsimp only
      have v5 := v4.cg hgr C5
      have z5 := z4.cg hg C5
      have C05 := C4.trans C5
      obtain ⟨_, _, _, _, _, vf⟩ := v5.cells
      have vf0 := vf 0
      have v6 := v5.set0 (str X)
      have z6 := z5.other (g2 := gv) (j := 0) (by omega) (str X)
      have R6 := RB.other R5 (g2 := gv) (j := 0) (by omega) (str X)
      have C6 := C05.box hg (g2 := gv) (by omega) 0 (str X)
      obtain ⟨p0, p1, p2, p3, p4, _⟩ := v6.cells
      clear n3 R4 C4 C05 v4 z4 R5 C5 z5 v5 vf
      go_wp2_with fail
      generalize w5.setCell ⟨gv, 0, none⟩ (str X) = W6 at *
      clear vf0 p0 p1 p2 p3 p4
      with_reducible refine Calls.mono (n4 _ _ R6) ?_
      rintro e w7 ⟨rfl, R7, C7⟩
      dsimp only
      have v7 := v6.cg hgr C7
      have z7 := z6.cg hg C7
      have C07 := C6.trans C7
      obtain ⟨_, _, _, _, _, vf⟩ := v7.cells
      have vf3 := vf 3
      have v8 := v7.set3 (str DD)
      have z8 := z7.other (g2 := gv) (j := 3) (by omega) (str DD)
      have R8 := RB.other R7 (g2 := gv) (j := 3) (by omega) (str DD)
      have C8 := C07.box hg (g2 := gv) (by omega) 3 (str DD)
      clear n4 R6 C6 C07 v6 z6 R7 C7 z7 v7 vf
      go_wp2_with fail
      generalize w7.setCell ⟨gv, 3, none⟩ (str DD) = W8 at *
      clear vf3
      with_reducible refine Calls.mono (n5 _ _ R8) ?_
      rintro e w9 ⟨rfl, R9, C9⟩
      dsimp only
      have v9 := v8.cg hgr C9
      have z9 := z8.cg hg C9
      have C09 := C8.trans C9
      clear n5 R8 C8 v8 z8 C9
      go_wp2_with fail
      with_reducible refine Calls.mono (n6 _ _ R9) ?_
      rintro e w10 ⟨vp, rfl, o10, R10, C10⟩
      dsimp only
      obtain ⟨ap, cp, rfl, _⟩ := o10.sl
      rw [hpl] at o10 ⊢
      have v10 := v9.cg hgr C10
      have z10 := z9.cg hg C10
      have C010 := C09.trans C10
      have hgvn : (Value.slice ap (cn r) cp).ownBlock ≠ some gv := fun q => by have h1 := (o10.own.lt _ q).1; have h2 := v9.lt; omega
      have hgrn : (Value.slice ap (cn r) cp).ownBlock ≠ some w.heap.size := fun q => by have h1 := (o10.own.lt _ q).1; have h2 := z9.lt; omega
      obtain ⟨_, _, _, _, _, vf⟩ := v10.cells
      have vf4 := vf 4
      have v11 := v10.set4 (.slice ap (cn r) cp)
      have z11 := z10.other (g2 := gv) (j := 4) (by omega) (.slice ap (cn r) cp)
      have R11 := RB.other R10 (g2 := gv) (j := 4) (by omega) (.slice ap (cn r) cp)
      have C11 := C010.box hg (g2 := gv) (by omega) 4 (.slice ap (cn r) cp)
      have o11 := Ow.other (o10.base (b' := w.heap.size) C09.lo.size) (j := 4) hgvn (.slice ap (cn r) cp)
      obtain ⟨p0, p1, p2, p3, p4, _⟩ := v11.cells
      obtain ⟨q0, q1, q2, q3, q4, qf⟩ := z11.cells
      have qf0 := qf 0
      have qf1 := qf 1
      have qf2 := qf 2
      have qf3 := qf 3
      have qf4 := qf 4
      clear qf vf
      clear n6 R9 C09 v9 z9 R10 C10 z10 v10 o10 C010
      go_wp2_with fail
      generalize w10.setCell ⟨gv, 4, none⟩ (.slice ap (cn r) cp) = W11 at *
      rw [s5_eq]
      have z12 := z11.s5 (str X) (.int .i64 Z) (.bool false) (str DD) (.slice ap (cn r) cp)
      have R12 := RB.s5 R11 (R := w.heap.size) (by omega) (str X) (.int .i64 Z) (.bool false) (str DD) (.slice ap (cn r) cp)
      have C12 := C11.s5 hg (R := w.heap.size) (Nat.le_refl _) (str X) (.int .i64 Z) (.bool false) (str DD) (.slice ap (cn r) cp)
      have o12 := o11.s5 hgrn (str X) (.int .i64 Z) (.bool false) (str DD) (.slice ap (cn r) cp)
      generalize s5 W11 w.heap.size (str X) (.int .i64 Z) (.bool false) (str DD) (.slice ap (cn r) cp) = W12 at *
      obtain ⟨g0, g1, g2, g3, g4, _⟩ := z12.cells
      refine bodyPost_ret (v := vv X Z false DD ap (cn r) cp) ?_ rfl ⟨ap, cn r, cp, rfl, hpl, o12, R12, C12⟩
      rw [results_cell1 rfl]
      go_simp
end Go.Proofs.Ytahdndmmakdamaa
