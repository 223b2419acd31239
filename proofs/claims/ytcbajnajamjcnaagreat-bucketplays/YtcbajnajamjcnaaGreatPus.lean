/- Push. -/
import Derived.Test.YtcbajnajamjcnaaGreatStc
namespace Go.Proofs.YtcbajnajamjcnaaGreat
set_option linter.unusedVariables false
set_option linter.unusedSimpArgs false
open Go.RowKit
attribute [local go_sem ↓] Go.wp_at_zero Go.wp_at_succ
attribute [local go_sem ↓] slPe
/-- what lies in memory of a version that is handed on -/
structure Vi (w : World) (v : Vs) (a : Option Addr) (n c : Nat) : Prop where
  n : v.l.length = n
  s : Sl w a c v.l
  z : v.l.length ≤ 4398046510976
theorem Vi.later {w w' : World} {v : Vs} {a : Option Addr} {n c : Nat} (h : Vi w v a n c) (hb : Below w.heap.size w w') : Vi w' v a n c := ⟨h.n, h.s.later hb, h.z⟩
/-- a list that is handed on -/
structure Li (w : World) (L : List Vs) (a : Option Addr) (n c : Nat) : Prop where
  n : L.length = n
  s : Ls w a c L
  l : L.length ≤ 1954687338240
  z : ∀ v ∈ L, v.l.length ≤ 4398046510976
theorem Li.later {w w' : World} {L : List Vs} {a : Option Addr} {n c : Nat} (h : Li w L a n c) (hb : Below w.heap.size w w') : Li w' L a n c := ⟨h.n, h.s.later hb, h.l, h.z⟩
theorem puE_key {L : List Vs} {u v : Vs} (h : lastV L = some u) (hk : ¬ u.key = v.key) : puE L v = 61 := by unfold puE; rw [h]; simp only [hk, not_false_eq_true, ↓reduceIte]
theorem puE_seq {L : List Vs} {u v : Vs} (h : lastV L = some u) (hk : u.key = v.key) (hs : v.seq < 1 ∨ v.seq ≤ u.seq) : puE L v = 74 := by unfold puE; rw [h]; simp only [hk, not_true_eq_false, ↓reduceIte, if_pos hs]
theorem puE_ok {L : List Vs} {u v : Vs} (h : lastV L = some u) (hk : u.key = v.key) (hs : ¬ (v.seq < 1 ∨ v.seq ≤ u.seq)) : puE L v = 0 := by unfold puE; rw [h]; simp only [hk, not_true_eq_false, ↓reduceIte, if_neg hs]
theorem puE_nil {v : Vs} (h : v.seq < 1) : puE [] v = 74 := by unfold puE; rw [lastV_nil]; simp only [if_pos h]
theorem puE_nil0 {v : Vs} (h : ¬ v.seq < 1) : puE [] v = 0 := by unfold puE; rw [lastV_nil]; simp only [if_neg h]
theorem puL_no {L : List Vs} {v : Vs} {c : Int} (h : puE L v = c) (hc : c ≠ 0) : puL L v = [] := by unfold puL; rw [h, if_neg hc]
theorem puL_ok {L : List Vs} {v : Vs} (h : puE L v = 0) : puL L v = L ++ [v] := by unfold puL; rw [if_pos h]
set_option maxRecDepth 100000 in
set_option maxHeartbeats 4000000 in
theorem push_any (L : List Vs) (v : Vs) (w : World) (a : Option Addr) (n cap : Nat) (va : Option Addr) (vn vc : Nat) (hL : Li w L a n cap) (hV : Vi w v va vn vc) :
    Calls Tryz.prog 73 #[.slice a n cap, vv v.key v.seq v.mkr v.data va vn vc] w fun e w' => ∃ r, e = .returned (.tuple #[r, .int .i64 (puE L v)]) ∧ Cp w.heap.size w' r (puL L v) ∧ Below w.heap.size w w' := by
  obtain rfl := hV.n
  have b0 := (Below.refl w.heap.size w).alloc (Nat.le_refl _) (.cells #[str v.key, .int .i64 v.seq, .bool v.mkr, str v.data, .slice va v.l.length vc] 39)
  have z0 := Bv.new w (str v.key) (.int .i64 v.seq) (.bool v.mkr) (str v.data) (.slice va v.l.length vc)
  have hnw := newest_any L _ a n cap hL.n (hL.later b0).s (by have := hL.l; omega)
  have hcs : ∀ w', Below w.heap.size w w' → Calls Tryz.prog 80 #[.slice a n cap] w' fun e w'' => ∃ r, e = .returned r ∧ Cp w'.heap.size w'' r L ∧ Below w'.heap.size w' w'' := fun w' hb => copies_any L w' a n cap hL.n (hL.later hb).s hL.l hL.z
  have hcd : ∀ w', Below w.heap.size w w' → Calls Tryz.prog 78 #[vv v.key v.seq v.mkr v.data va v.l.length vc] w' fun e w'' => ∃ ad c, e = .returned (vv v.key v.seq v.mkr v.data ad v.l.length c) ∧ Ow w'.heap.size w'' (.slice ad v.l.length c) v.l ∧ Below w'.heap.size w' w'' := fun w' hb => copied_any v w' va _ vc rfl (hV.later hb).s hV.z
  have hlen := hL.l
  clear hL hV
  go_enter Tryz.func73, Tryz.ntmps73
  go_wp2_with fail
  with_reducible refine Calls.mono hnw ?_
  rintro e w1 ⟨(⟨rfl, rfl⟩ | ⟨x, hx, hsx, rfl⟩), b1⟩
  · dsimp only
    have z1 := z0.later b1
    have B1 := b0.trans (b1.mono b0.size)
    have z2 := z1.later ((Below.refl _ _).alloc (Nat.le_refl _) (.cells z5c 39))
    have B2 := B1.alloc B1.size (.cells z5c 39)
    have y2 := Bv.new w1 (.string ⟨#[]⟩) (.int .i64 0) (.bool false) (.string ⟨#[]⟩) (.slice none 0 0)
    obtain ⟨p0, p1, p2, p3, p4, _⟩ := z2.cells
    obtain ⟨q0, q1, q2, q3, q4, _⟩ := y2.cells
    clear hnw b0 z0 b1 z1 B1
    by_cases hs : v.seq < 1
    · have H1 := puE_nil hs
      have H2 := Hid.mk (puL_no H1 (by decide))
      have H1' := Hid.mk H1
      have d1 : decide (v.seq ≤ 0) = true := decide_eq_true (by omega)
      clear H1 hs
      go_wp2_with fail
      go_ret2
      exact ⟨_, by rw [H1'.out]; rfl, by rw [H2.out]; exact Cp.nil _ _ B2.size, B2⟩
    · have H1 := puE_nil0 hs
      have H2 := Hid.mk (puL_ok H1)
      have H1' := Hid.mk H1
      have d1 : decide (v.seq ≤ 0) = false := decide_eq_false (by omega)
      clear H1 hs
      go_wp2_with fail
      generalize w1.alloc (.cells z5c 39) = W2 at *
      have HS : Hid (∀ w', Below W2.heap.size W2 w' → Below W2.heap.size W2 w' ∧ w'.cell? ⟨w.heap.size, 0, none⟩ = some (str v.key) ∧ w'.cell? ⟨w.heap.size, 1, none⟩ = some (.int .i64 v.seq) ∧ w'.cell? ⟨w.heap.size, 2, none⟩ = some (.bool v.mkr) ∧ w'.cell? ⟨w.heap.size, 3, none⟩ = some (str v.data) ∧ w'.cell? ⟨w.heap.size, 4, none⟩ = some (.slice va v.l.length vc)) := ⟨fun w' hb => by
        obtain ⟨g0, g1, g2, g3, g4, _⟩ := (z2.later hb).cells
        exact ⟨hb, g0, g1, g2, g3, g4⟩⟩
      clear z2 y2 p0 p1 p2 p3 p4 q0 q1 q2 q3 q4 d1
      go_region_held3 (fun w' => Below W2.heap.size W2 w' ∧ w'.cell? ⟨w.heap.size, 0, none⟩ = some (str v.key) ∧ w'.cell? ⟨w.heap.size, 1, none⟩ = some (.int .i64 v.seq) ∧ w'.cell? ⟨w.heap.size, 2, none⟩ = some (.bool v.mkr) ∧ w'.cell? ⟨w.heap.size, 3, none⟩ = some (str v.data) ∧ w'.cell? ⟨w.heap.size, 4, none⟩ = some (.slice va v.l.length vc)) (first
        | exact HS.out _ (Below.refl _ _).drew
        | exact HS.out _ (below_seq (And.left (by assumption)) b5)
        | exact HS.out _ (below_seq (And.left (by assumption)) b6)
        | exact HS.out _ (Below.alloc (And.left (by assumption)) (Below.size (w := W2) (And.left (by assumption))) _)
        | exact HS.out _ (Below.trans (And.left (by assumption)) b7)) (first
        | (go_at_call 80; with_reducible refine Calls.mono (hcs _ (B2.trans (Below.mono (And.left (by assumption)) B2.size))) ?_; rintro e w5 ⟨r5, rfl, c5, b5⟩)
        | (go_at_call 78; with_reducible refine Calls.mono (hcd _ (B2.trans (Below.mono (And.left (by assumption)) B2.size))) ?_; rintro e w6 ⟨a6, c6, rfl, o6, b6⟩)
        | (refine step_cp rfl _ _ rfl v rfl c5 (w1 := w6) (by first | exact b6 | exact ((Below.refl _ _).drew).trans b6 | exact ((Below.refl _ _).drew.drew).trans b6) o6 rfl rfl (by first | omega | (simp; done)) rfl rfl ?_; intro v7 w7 c7 b7))
      have B7 : Below W2.heap.size W2 w7 := And.left (by assumption)
      go_wp2_with fail
      go_ret2
      exact ⟨v7, by rw [H1'.out]; rfl, by rw [H2.out]; exact Cp.base c7 B2.size, B2.trans (B7.mono B2.size)⟩
  · dsimp only
    have z1 := z0.later b1
    have B1 := b0.trans (b1.mono b0.size)
    have z2 := z1.later ((Below.refl _ _).alloc (Nat.le_refl _) (.cells (c5 x) 39))
    have B2 := B1.alloc B1.size (.cells (c5 x) 39)
    have y2 := Bv.new w1 (str x.v.key) (.int .i64 x.v.seq) (.bool x.v.mkr) (str x.v.data) (.slice x.a x.v.l.length x.c)
    obtain ⟨p0, p1, p2, p3, p4, _⟩ := z2.cells
    obtain ⟨q0, q1, q2, q3, q4, _⟩ := y2.cells
    clear hnw b0 z0 b1 z1 B1 hsx
    by_cases hk : x.v.key = v.key
    · have dk : (x.v.key == v.key) = true := by rw [beq_iff_eq]; exact hk
      by_cases hs : v.seq < 1 ∨ v.seq ≤ x.v.seq
      · have H1 := puE_seq hx hk hs
        have H2 := Hid.mk (puL_no H1 (by decide))
        have H1' := Hid.mk H1
        clear H1 hx hk
        by_cases hn : x.v.seq < 0
        · have dn : decide (x.v.seq < 0) = true := decide_eq_true hn
          have d1 : decide (v.seq ≤ 0) = true := decide_eq_true (by omega)
          clear hs
          go_wp2_with fail
          go_ret2
          exact ⟨_, by rw [H1'.out]; rfl, by rw [H2.out]; exact Cp.nil _ _ B2.size, B2⟩
        · have dn : decide (x.v.seq < 0) = false := decide_eq_false hn
          have d1 : decide (v.seq ≤ x.v.seq) = true := decide_eq_true (by omega)
          clear hs
          go_wp2_with fail
          go_ret2
          exact ⟨_, by rw [H1'.out]; rfl, by rw [H2.out]; exact Cp.nil _ _ B2.size, B2⟩
      · have H1 := puE_ok hx hk hs
        have H2 := Hid.mk (puL_ok H1)
        have H1' := Hid.mk H1
        clear H1 hx hk
        by_cases hn : x.v.seq < 0
        · have dn : decide (x.v.seq < 0) = true := decide_eq_true hn
          have d1 : decide (v.seq ≤ 0) = false := decide_eq_false (by omega)
          clear hs
          go_wp2_with fail
          generalize w1.alloc (.cells #[str x.v.key, .int .i64 x.v.seq, .bool x.v.mkr, str x.v.data, .slice x.a x.v.l.length x.c] 39) = W2 at *
          have HS : Hid (∀ w', Below W2.heap.size W2 w' → Below W2.heap.size W2 w' ∧ w'.cell? ⟨w.heap.size, 0, none⟩ = some (str v.key) ∧ w'.cell? ⟨w.heap.size, 1, none⟩ = some (.int .i64 v.seq) ∧ w'.cell? ⟨w.heap.size, 2, none⟩ = some (.bool v.mkr) ∧ w'.cell? ⟨w.heap.size, 3, none⟩ = some (str v.data) ∧ w'.cell? ⟨w.heap.size, 4, none⟩ = some (.slice va v.l.length vc)) := ⟨fun w' hb => by
            obtain ⟨g0, g1, g2, g3, g4, _⟩ := (z2.later hb).cells
            exact ⟨hb, g0, g1, g2, g3, g4⟩⟩
          clear z2 y2 p0 p1 p2 p3 p4 q0 q1 q2 q3 q4 d1 dk dn hn
          go_region_held3 (fun w' => Below W2.heap.size W2 w' ∧ w'.cell? ⟨w.heap.size, 0, none⟩ = some (str v.key) ∧ w'.cell? ⟨w.heap.size, 1, none⟩ = some (.int .i64 v.seq) ∧ w'.cell? ⟨w.heap.size, 2, none⟩ = some (.bool v.mkr) ∧ w'.cell? ⟨w.heap.size, 3, none⟩ = some (str v.data) ∧ w'.cell? ⟨w.heap.size, 4, none⟩ = some (.slice va v.l.length vc)) (first
            | exact HS.out _ (Below.refl _ _).drew
            | exact HS.out _ (below_seq (And.left (by assumption)) b5)
            | exact HS.out _ (below_seq (And.left (by assumption)) b6)
            | exact HS.out _ (Below.alloc (And.left (by assumption)) (Below.size (w := W2) (And.left (by assumption))) _)
            | exact HS.out _ (Below.trans (And.left (by assumption)) b7)) (first
            | (go_at_call 80; with_reducible refine Calls.mono (hcs _ (B2.trans (Below.mono (And.left (by assumption)) B2.size))) ?_; rintro e w5 ⟨r5, rfl, c5, b5⟩)
            | (go_at_call 78; with_reducible refine Calls.mono (hcd _ (B2.trans (Below.mono (And.left (by assumption)) B2.size))) ?_; rintro e w6 ⟨a6, c6, rfl, o6, b6⟩)
            | (refine step_cp rfl _ _ rfl v rfl c5 (w1 := w6) (by first | exact b6 | exact ((Below.refl _ _).drew).trans b6 | exact ((Below.refl _ _).drew.drew).trans b6) o6 rfl rfl (by first | omega | (simp; done)) rfl rfl ?_; intro v7 w7 c7 b7))
          have B7 : Below W2.heap.size W2 w7 := And.left (by assumption)
          go_wp2_with fail
          go_ret2
          exact ⟨v7, by rw [H1'.out]; rfl, by rw [H2.out]; exact Cp.base c7 B2.size, B2.trans (B7.mono B2.size)⟩
        · have dn : decide (x.v.seq < 0) = false := decide_eq_false hn
          have d1 : decide (v.seq ≤ x.v.seq) = false := decide_eq_false (by omega)
          clear hs
          go_wp2_with fail
          generalize w1.alloc (.cells #[str x.v.key, .int .i64 x.v.seq, .bool x.v.mkr, str x.v.data, .slice x.a x.v.l.length x.c] 39) = W2 at *
          have HS : Hid (∀ w', Below W2.heap.size W2 w' → Below W2.heap.size W2 w' ∧ w'.cell? ⟨w.heap.size, 0, none⟩ = some (str v.key) ∧ w'.cell? ⟨w.heap.size, 1, none⟩ = some (.int .i64 v.seq) ∧ w'.cell? ⟨w.heap.size, 2, none⟩ = some (.bool v.mkr) ∧ w'.cell? ⟨w.heap.size, 3, none⟩ = some (str v.data) ∧ w'.cell? ⟨w.heap.size, 4, none⟩ = some (.slice va v.l.length vc)) := ⟨fun w' hb => by
            obtain ⟨g0, g1, g2, g3, g4, _⟩ := (z2.later hb).cells
            exact ⟨hb, g0, g1, g2, g3, g4⟩⟩
          clear z2 y2 p0 p1 p2 p3 p4 q0 q1 q2 q3 q4 d1 dk dn hn
          go_region_held3 (fun w' => Below W2.heap.size W2 w' ∧ w'.cell? ⟨w.heap.size, 0, none⟩ = some (str v.key) ∧ w'.cell? ⟨w.heap.size, 1, none⟩ = some (.int .i64 v.seq) ∧ w'.cell? ⟨w.heap.size, 2, none⟩ = some (.bool v.mkr) ∧ w'.cell? ⟨w.heap.size, 3, none⟩ = some (str v.data) ∧ w'.cell? ⟨w.heap.size, 4, none⟩ = some (.slice va v.l.length vc)) (first
            | exact HS.out _ (Below.refl _ _).drew
            | exact HS.out _ (below_seq (And.left (by assumption)) b5)
            | exact HS.out _ (below_seq (And.left (by assumption)) b6)
            | exact HS.out _ (Below.alloc (And.left (by assumption)) (Below.size (w := W2) (And.left (by assumption))) _)
            | exact HS.out _ (Below.trans (And.left (by assumption)) b7)) (first
            | (go_at_call 80; with_reducible refine Calls.mono (hcs _ (B2.trans (Below.mono (And.left (by assumption)) B2.size))) ?_; rintro e w5 ⟨r5, rfl, c5, b5⟩)
            | (go_at_call 78; with_reducible refine Calls.mono (hcd _ (B2.trans (Below.mono (And.left (by assumption)) B2.size))) ?_; rintro e w6 ⟨a6, c6, rfl, o6, b6⟩)
            | (refine step_cp rfl _ _ rfl v rfl c5 (w1 := w6) (by first | exact b6 | exact ((Below.refl _ _).drew).trans b6 | exact ((Below.refl _ _).drew.drew).trans b6) o6 rfl rfl (by first | omega | (simp; done)) rfl rfl ?_; intro v7 w7 c7 b7))
          have B7 : Below W2.heap.size W2 w7 := And.left (by assumption)
          go_wp2_with fail
          go_ret2
          exact ⟨v7, by rw [H1'.out]; rfl, by rw [H2.out]; exact Cp.base c7 B2.size, B2.trans (B7.mono B2.size)⟩
    · have H1 := puE_key hx hk
      have H2 := Hid.mk (puL_no H1 (by decide))
      have H1' := Hid.mk H1
      have dk : (x.v.key == v.key) = false := by rw [beq_eq_false_iff_ne]; exact hk
      clear H1 hx hk
      go_wp2_with fail
      go_ret2
      exact ⟨_, by rw [H1'.out]; rfl, by rw [H2.out]; exact Cp.nil _ _ B2.size, B2⟩
end Go.Proofs.YtcbajnajamjcnaaGreat
