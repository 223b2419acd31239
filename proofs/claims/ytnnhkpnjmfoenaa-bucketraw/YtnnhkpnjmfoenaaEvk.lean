/- What is told key by key: the closures of List and Versions. -/
import Derived.Test.YtnnhkpnjmfoenaaRwr
import Derived.Test.YtnnhkpnjmfoenaaPlb
import Derived.Test.YtnnhkpnjmfoenaaGtb
import Derived.Test.YtnnhkpnjmfoenaaRun
namespace Go.Proofs.Ytnnhkpnjmfoenaa
set_option linter.unusedVariables false
set_option linter.unusedSimpArgs false
open Go.RowKit
attribute [local go_sem ↓] Go.wp_at_zero Go.wp_at_succ
theorem ken_pos (v : Vs) (t : List Vs) : 1 ≤ ken (v :: t) v.key := by rw [ken_cons, if_pos rfl]; omega
/-- the versions key by key, as long as more are asked for -/
def evL (st : List Rw → List Vs → List Rw × Bool) (X : List Rw) (R : List Vs) : List Rw := match R with
  | [] => X
  | v :: t => if (st X ((v :: t).take (ken (v :: t) v.key))).2 = true then evL st (st X ((v :: t).take (ken (v :: t) v.key))).1 ((v :: t).drop (ken (v :: t) v.key)) else (st X ((v :: t).take (ken (v :: t) v.key))).1
termination_by R.length
decreasing_by
  have := ken_pos v t
  rw [List.length_drop, List.length_cons]
  omega
theorem evL_nil (st : List Rw → List Vs → List Rw × Bool) (X : List Rw) : evL st X [] = X := by rw [evL]
theorem evL_at {st : List Rw → List Vs → List Rw × Bool} {X : List Rw} {R : List Vs} {v : Vs} (h : R[0]? = some v) : evL st X R = if (st X (R.take (ken R v.key))).2 = true then evL st (st X (R.take (ken R v.key))).1 (R.drop (ken R v.key)) else (st X (R.take (ken R v.key))).1 := by
  cases R with
  | nil => simp at h
  | cons u t =>
    simp at h
    subst h
    rw [evL]
/-- List's step -/
def stL (m : Int) (X : List Rw) (G : List Vs) : List Rw × Bool := if (X.length : Int) < m then (match G.getLast? with | none => (X, true) | some u => if u.mkr = true then (X, true) else (X ++ [rwOf u], true)) else (X, false)
/-- Versions' step -/
def stV (m : Int) (X : List Rw) (G : List Vs) : List Rw × Bool := (X ++ (rwsL G).take (m - (X.length : Int)).toNat, decide (G.length ≤ (m - (X.length : Int)).toNat))
/-- the two variables that the closures have, and the rows -/
structure Cl (base : Nat) (w : World) (gr gm : Nat) (v : Value) (X : List Rw) (m : Int) : Prop where
  r : w.heap[gr]? = some (.cells #[v] 28 (0, 0))
  q : w.heap[gm]? = some (.cells #[.int .i64 m] 3 (0, 0))
  o : Wo base w v X
  l1 : gr < base
  l2 : gm < base
  ne : gr ≠ gm
theorem Cl.later {base gr gm : Nat} {w w' : World} {v : Value} {X : List Rw} {m : Int} (h : Cl base w gr gm v X m) (hb : Below w.heap.size w w') : Cl base w' gr gm v X m :=
  ⟨by rw [hb.block gr (lt_of_block h.r)]; exact h.r, by rw [hb.block gm (lt_of_block h.q)]; exact h.q, h.o.later hb, h.l1, h.l2, h.ne⟩
theorem Cl.cells {base gr gm : Nat} {w : World} {v : Value} {X : List Rw} {m : Int} (h : Cl base w gr gm v X m) : w.cell? ⟨gr, 0, none⟩ = some v ∧ w.cell? ⟨gm, 0, none⟩ = some (.int .i64 m) ∧ w.frozen? ⟨gr, 0, none⟩ = false :=
  ⟨by rw [cell_of_row _ _ _ _ _ _ h.r]; rfl, by rw [cell_of_row _ _ _ _ _ _ h.q]; rfl, frozen_of_row _ _ _ _ _ h.r⟩
/-- one row more, and the variable set -/
theorem Cl.set {base gr gm : Nat} {w w' : World} {v v' : Value} {X X' : List Rw} {m : Int} (h : Cl base w gr gm v X m) (hb : Below base w w') (ho : Wo base w' v' X') : Cl base (w'.setCell ⟨gr, 0, none⟩ v') gr gm v' X' m := by
  have r' : w'.heap[gr]? = some (.cells #[v] 28 (0, 0)) := by rw [hb.block gr h.l1]; exact h.r
  have q' : w'.heap[gm]? = some (.cells #[.int .i64 m] 3 (0, 0)) := by rw [hb.block gm h.l2]; exact h.q
  refine ⟨by rw [heap_setCell_same _ _ _ _ _ _ r']; rfl, by rw [heap_setCell_other _ _ _ _ (by first | exact h.ne | exact h.ne.symm)]; exact q', ⟨ownsRow_setCell_other ho.own (a := ⟨gr, _, none⟩) (fun q => ?_) _, by simpa using ho.le⟩, h.l1, h.l2, h.ne⟩
  have h5 := (ho.own.lt _ q).1
  have h6 := h.l1
  have h7 : base ≤ gr := h5
  omega
theorem rwsL_head {G : List Vs} {u : Vs} (h : G.getLast? = some u) : (rwsL G)[0]? = some (rwOf u) := by
  unfold rwsL
  rw [List.getElem?_map, ← List.head?_eq_getElem?, List.head?_reverse, h]
  rfl
set_option maxRecDepth 100000 in
set_option maxHeartbeats 4000000 in
theorem bList1_any (G : List Vs) (w0 w : World) (a : Option Addr) (n cap base gr gm : Nat) (v : Value) (X : List Rw) (m : Int) (hL : Li w0 G a n cap) (hb : Below w0.heap.size w0 w) (hC : Cl base w gr gm v X m) (h0 : w0.heap.size ≤ gr) (hB : w0.heap.size ≤ base) (hX : X.length ≤ 1000) (hG : 0 < G.length) :
    Calls Try.prog 23 #[.slice a n cap, .pointer (some ⟨gr, 0, none⟩), .pointer (some ⟨gm, 0, none⟩)] w fun e w' => e = .returned (.bool (stL m X G).2) ∧ (∃ v', Cl base w' gr gm v' (stL m X G).1 m) ∧ Below w0.heap.size w0 w' := by
  obtain rfl := hL.n
  obtain ⟨ra, rc, rfl, hW⟩ := hC.o.sl
  obtain ⟨p0, p1, pf⟩ := hC.cells
  by_cases h1 : (X.length : Int) < m
  · have d1 : decide (m ≤ (X.length : Int)) = false := decide_eq_false (by omega)
    obtain ⟨u, hu⟩ : ∃ u, G.getLast? = some u := by
      cases h : G.getLast? with
      | none => rw [List.getLast?_eq_none_iff] at h; subst h; simp at hG
      | some u => exact ⟨u, rfl⟩
    have hrw := rows_any G w a _ cap (hL.later hb)
    have hr0 := rwsL_head hu
    have hrl := rwsL_len G
    go_enter Try.func23, Try.ntmps23
    go_wp2_with fail
    with_reducible refine Calls.mono hrw ?_
    rintro e w1 ⟨rv, rfl, ow, b1⟩
    obtain ⟨qa, qc, rfl, hw⟩ := ow.sl
    dsimp only
    obtain ⟨b, off, rfl, hbl, c0, c1, c2, c3⟩ := hw.get 0 (rwOf u) hr0
    simp only [Nat.zero_mul, Nat.add_zero] at c0 c1 c2 c3
    have hC1 := hC.later b1
    obtain ⟨p0', p1', pf'⟩ := hC1.cells
    have k0 : (0 : Int) < ((rwsL G).length : Int) := by omega
    have hb1 := hb.trans (b1.mono hb.size)
    generalize (rwsL G).length = RL at *
    clear hrw hr0 hw ow b1 p0 p1 pf hC hW hL hb
    by_cases h2 : u.mkr = true
    · have HS : Hid (stL m X G = (X, true)) := ⟨by unfold stL; rw [if_pos h1, hu]; simp [h2]⟩
      rw [show (rwOf u).mkr = true from h2] at c2
      clear h1 hu h2
      have B2 := hb1.trans (((Below.refl w1.heap.size w1).alloc (Nat.le_refl _) (.cells #[str (rwOf u).key, .int .i64 (rwOf u).seq, .bool true, .int .i64 (rwOf u).size] 37)).mono hb1.size)
      have C2 := hC1.later ((Below.refl w1.heap.size w1).alloc (Nat.le_refl _) (.cells #[str (rwOf u).key, .int .i64 (rwOf u).seq, .bool true, .int .i64 (rwOf u).size] 37))
      go_wp2_with fail
      go_ret
      exact ⟨by rw [HS.out]; rfl, ⟨_, by rw [HS.out]; exact C2⟩, B2⟩
    · have h2' : u.mkr = false := by simpa using h2
      have HS : Hid (stL m X G = (X ++ [rwOf u], true)) := ⟨by unfold stL; rw [if_pos h1, hu]; simp [h2']⟩
      have b2 := (Below.refl w1.heap.size w1).alloc (Nat.le_refl _) (.cells #[str (rwOf u).key, .int .i64 (rwOf u).seq, .bool false, .int .i64 (rwOf u).size] 37)
      have C2 := hC1.later b2
      have B2 := hb1.trans (b2.mono hb1.size)
      obtain ⟨v3, w3, hr, o3, b3⟩ := run_wo (W := (w1.alloc (.cells #[str (rwOf u).key, .int .i64 (rwOf u).seq, .bool false, .int .i64 (rwOf u).size] 37)).alloc (.cells #[str (rwOf u).key, .int .i64 (rwOf u).seq, .bool false, .int .i64 (rwOf u).size] 37)) 28 (rwOf u) (by unfold wcs; rw [show (rwOf u).mkr = false from h2']) C2.o rfl (by omega)
      have b4 := ((Below.refl base (w1.alloc (.cells #[str (rwOf u).key, .int .i64 (rwOf u).seq, .bool false, .int .i64 (rwOf u).size] 37))).alloc C2.o.le (.cells #[str (rwOf u).key, .int .i64 (rwOf u).seq, .bool false, .int .i64 (rwOf u).size] 37)).trans b3
      have C3 := C2.set b4 o3
      have B3 := (B2.trans (b4.mono hB)).setCell (p := ⟨gr, 0, none⟩) h0 v3
      have r3 : w3.cell? ⟨gr, 0, none⟩ = some (.slice ra X.length rc) := by
        have := b4.block gr C2.l1
        have h := C2.r
        rw [← this] at h
        rw [cell_of_row _ _ _ _ _ _ h]; rfl
      have rf3 : w3.frozen? ⟨gr, 0, none⟩ = false := by
        have := b4.block gr C2.l1
        have h := C2.r
        rw [← this] at h
        exact frozen_of_row _ _ _ _ _ h
      rw [show (rwOf u).mkr = false from h2'] at c2
      obtain ⟨v3a, v3c, rfl, _⟩ := o3.sl
      rw [World.size_alloc] at hr
      obtain ⟨s0, s1, sf⟩ := C2.cells
      have hgr : gr < w1.heap.size := lt_of_block hC1.r
      clear h1 hu h2 h2' C2 b3 b4 o3 hC1 B2 b2
      generalize (X ++ [rwOf u]).length = XL at *
      go_wp2_with (refine app_run rfl _ _ rfl rfl rfl hr ?_)
      go_ret
      exact ⟨by rw [HS.out]; rfl, ⟨_, by rw [HS.out]; exact C3⟩, B3⟩
  · have d1 : decide (m ≤ (X.length : Int)) = true := decide_eq_true (by omega)
    have HS : Hid (stL m X G = (X, false)) := ⟨by unfold stL; rw [if_neg h1]⟩
    clear h1
    go_enter Try.func23, Try.ntmps23
    go_wp2_with fail
    go_ret
    exact ⟨by rw [HS.out]; rfl, ⟨_, by rw [HS.out]; exact hC⟩, hb⟩
end Go.Proofs.Ytnnhkpnjmfoenaa
