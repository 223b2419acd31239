import Derived.Test.YtgcdnanfnbdjjaaGreatGr
import Derived.Test.YtgcdnanfnbdjjaaGreatGt
import Derived.Test.YtgcdnanfnbdjjaaGreatGc
import Derived.Test.YtgcdnanfnbdjjaaGreatRun
/- What is told key by key: the closures of List and Versions. -/
namespace Go.Proofs.YtgcdnanfnbdjjaaGreat
set_option linter.unusedVariables false
set_option linter.unusedSimpArgs false
open Go.RowKit
attribute [local go_sem ↓] Go.wp_at_zero Go.wp_at_succ
theorem ken_pos (v : Vs) (t : List Vs) : 1 ≤ ken (v :: t) v.key := by rw [ken_cons, if_pos rfl]; omega
/-- the versions key by key, as long as more are asked for -/
def evL (st : List Rw → List Vs → List Rw × Bool) (X : List Rw) (R : List Vs) : List Rw := match R with
  | [] => X
  | v :: t => if (st X ((v :: t).take (ken (v :: t) v.key))).2 = true then evL st (st X ((v :: t).take (ken (v :: t) v.key))).1 ((v :: t).drop (ken (v :: t) v.key)) else (st X ((v :: t).take (ken (v :: t) v.key))).1
termination_by R.length
decreasing_by
  have := ken_pos v t
  rw [List.length_drop, List.length_cons]
  omega
theorem evL_nil (st : List Rw → List Vs → List Rw × Bool) (X : List Rw) : evL st X [] = X := by rw [evL]
theorem evL_at {st : List Rw → List Vs → List Rw × Bool} {X : List Rw} {R : List Vs} {v : Vs} (h : R[0]? = some v) : evL st X R = if (st X (R.take (ken R v.key))).2 = true then evL st (st X (R.take (ken R v.key))).1 (R.drop (ken R v.key)) else (st X (R.take (ken R v.key))).1 := by
  cases R with
  | nil => simp at h
  | cons u t =>
    simp at h
    subst h
    rw [evL]
/-- List's step -/
def stL (m : Int) (X : List Rw) (G : List Vs) : List Rw × Bool := if (X.length : Int) < m then (match G.getLast? with | none => (X, true) | some u => if u.mkr = true then (X, true) else (X ++ [rwOf u], true)) else (X, false)
/-- Versions' step -/
def stV (m : Int) (X : List Rw) (G : List Vs) : List Rw × Bool := (X ++ (rwsL G).take (m - (X.length : Int)).toNat, decide (G.length ≤ (m - (X.length : Int)).toNat))
/-- the two variables that the closures have, and the rows -/
structure Cl (base : Nat) (w : World) (gr gm : Nat) (v : Value) (X : List Rw) (m : Int) : Prop where
  r : w.heap[gr]? = some (.cells #[v] 58 (0, 0))
  q : w.heap[gm]? = some (.cells #[.int .i64 m] 3 (0, 0))
  o : Wo base w v X
  l1 : gr < base
  l2 : gm < base
  ne : gr ≠ gm
theorem Cl.later {base gr gm : Nat} {w w' : World} {v : Value} {X : List Rw} {m : Int} (h : Cl base w gr gm v X m) (hb : Below w.heap.size w w') : Cl base w' gr gm v X m :=
  ⟨by rw [hb.block gr (lt_of_block h.r)]; exact h.r, by rw [hb.block gm (lt_of_block h.q)]; exact h.q, h.o.later hb, h.l1, h.l2, h.ne⟩
theorem Cl.cells {base gr gm : Nat} {w : World} {v : Value} {X : List Rw} {m : Int} (h : Cl base w gr gm v X m) : w.cell? ⟨gr, 0, none⟩ = some v ∧ w.cell? ⟨gm, 0, none⟩ = some (.int .i64 m) ∧ w.frozen? ⟨gr, 0, none⟩ = false :=
  ⟨by rw [cell_of_row _ _ _ _ _ _ h.r]; rfl, by rw [cell_of_row _ _ _ _ _ _ h.q]; rfl, frozen_of_row _ _ _ _ _ h.r⟩
/-- one row more, and the variable set -/
theorem Cl.set {base gr gm : Nat} {w w' : World} {v v' : Value} {X X' : List Rw} {m : Int} (h : Cl base w gr gm v X m) (hb : Below base w w') (ho : Wo base w' v' X') : Cl base (w'.setCell ⟨gr, 0, none⟩ v') gr gm v' X' m := by
  have r' : w'.heap[gr]? = some (.cells #[v] 58 (0, 0)) := by rw [hb.block gr h.l1]; exact h.r
  have q' : w'.heap[gm]? = some (.cells #[.int .i64 m] 3 (0, 0)) := by rw [hb.block gm h.l2]; exact h.q
  refine ⟨by rw [heap_setCell_same _ _ _ _ _ _ r']; rfl, by rw [heap_setCell_other _ _ _ _ (by first | exact h.ne | exact h.ne.symm)]; exact q', ⟨ownsRow_setCell_other ho.own (a := ⟨gr, _, none⟩) (fun q => ?_) _, by simpa using ho.le⟩, h.l1, h.l2, h.ne⟩
  have h5 := (ho.own.lt _ q).1
  have h6 := h.l1
  have h7 : base ≤ gr := h5
  omega
theorem rwsL_head {G : List Vs} {u : Vs} (h : G.getLast? = some u) : (rwsL G)[0]? = some (rwOf u) := by
  unfold rwsL
  rw [List.getElem?_map, ← List.head?_eq_getElem?, List.head?_reverse, h]
  rfl
set_option maxRecDepth 100000 in
set_option maxHeartbeats 4000000 in
theorem bList1_any (G : List Vs) (w0 w : World) (a : Option Addr) (n cap base gr gm : Nat) (v : Value) (X : List Rw) (m : Int) (hL : Li w0 G a n cap) (hb : Below w0.heap.size w0 w) (hC : Cl base w gr gm v X m) (h0 : w0.heap.size ≤ gr) (hB : w0.heap.size ≤ base) (hX : X.length ≤ 1000) (hG : 0 < G.length) :
    Calls Tryz.prog 54 #[.slice a n cap, .pointer (some ⟨gr, 0, none⟩), .pointer (some ⟨gm, 0, none⟩)] w fun e w' => e = .returned (.bool (stL m X G).2) ∧ (∃ v', Cl base w' gr gm v' (stL m X G).1 m) ∧ Below w0.heap.size w0 w' := by
  obtain rfl := hL.n
  obtain ⟨ra, rc, rfl, hW⟩ := hC.o.sl
  obtain ⟨p0, p1, pf⟩ := hC.cells
  by_cases h1 : (X.length : Int) < m
  · have d1 : decide (m ≤ (X.length : Int)) = false := decide_eq_false (by omega)
    obtain ⟨u, hu⟩ : ∃ u, G.getLast? = some u := by
      cases h : G.getLast? with
      | none => rw [List.getLast?_eq_none_iff] at h; subst h; simp at hG
      | some u => exact ⟨u, rfl⟩
    have hrw := rows_any G w a _ cap (hL.later hb)
    have hr0 := rwsL_head hu
    have hrl := rwsL_len G
    go_enter Tryz.func54, Tryz.ntmps54
    go_wp2_with fail
    with_reducible refine Calls.mono hrw ?_
    rintro e w1 ⟨rv, rfl, ow, b1⟩
    obtain ⟨qa, qc, rfl, hw⟩ := ow.sl
    dsimp only
    obtain ⟨b, off, rfl, hbl, c0, c1, c2, c3⟩ := hw.get 0 (rwOf u) hr0
    simp only [Nat.zero_mul, Nat.add_zero] at c0 c1 c2 c3
    have hC1 := hC.later b1
    obtain ⟨p0', p1', pf'⟩ := hC1.cells
    have k0 : (0 : Int) < ((rwsL G).length : Int) := by omega
    have hb1 := hb.trans (b1.mono hb.size)
    generalize (rwsL G).length = RL at *
    clear hrw hr0 hw ow b1 p0 p1 pf hC hW hL hb
    by_cases h2 : u.mkr = true
    · have HS : Hid (stL m X G = (X, true)) := ⟨by unfold stL; rw [if_pos h1, hu]; simp [h2]⟩
      rw [show (rwOf u).mkr = true from h2] at c2
      clear h1 hu h2
      have B2 := hb1.trans (((Below.refl w1.heap.size w1).alloc (Nat.le_refl _) (.cells #[str (rwOf u).key, .int .i64 (rwOf u).seq, .bool true, .int .i64 (rwOf u).size] 73)).mono hb1.size)
      have C2 := hC1.later ((Below.refl w1.heap.size w1).alloc (Nat.le_refl _) (.cells #[str (rwOf u).key, .int .i64 (rwOf u).seq, .bool true, .int .i64 (rwOf u).size] 73))
      go_wp2_with fail
      go_ret
      exact ⟨by rw [HS.out]; rfl, ⟨_, by rw [HS.out]; exact C2⟩, B2⟩
    · have h2' : u.mkr = false := by simpa using h2
      have HS : Hid (stL m X G = (X ++ [rwOf u], true)) := ⟨by unfold stL; rw [if_pos h1, hu]; simp [h2']⟩
      have b2 := (Below.refl w1.heap.size w1).alloc (Nat.le_refl _) (.cells #[str (rwOf u).key, .int .i64 (rwOf u).seq, .bool false, .int .i64 (rwOf u).size] 73)
      have C2 := hC1.later b2
      have B2 := hb1.trans (b2.mono hb1.size)
      obtain ⟨v3, w3, hr, o3, b3⟩ := run_wo (W := (w1.alloc (.cells #[str (rwOf u).key, .int .i64 (rwOf u).seq, .bool false, .int .i64 (rwOf u).size] 73)).alloc (.cells #[str (rwOf u).key, .int .i64 (rwOf u).seq, .bool false, .int .i64 (rwOf u).size] 73)) 58 (rwOf u) (by unfold wcs; rw [show (rwOf u).mkr = false from h2']) C2.o rfl (by omega)
      have b4 := ((Below.refl base (w1.alloc (.cells #[str (rwOf u).key, .int .i64 (rwOf u).seq, .bool false, .int .i64 (rwOf u).size] 73))).alloc C2.o.le (.cells #[str (rwOf u).key, .int .i64 (rwOf u).seq, .bool false, .int .i64 (rwOf u).size] 73)).trans b3
      have C3 := C2.set b4 o3
      have B3 := (B2.trans (b4.mono hB)).setCell (p := ⟨gr, 0, none⟩) h0 v3
      have r3 : w3.cell? ⟨gr, 0, none⟩ = some (.slice ra X.length rc) := by
        have := b4.block gr C2.l1
        have h := C2.r
        rw [← this] at h
        rw [cell_of_row _ _ _ _ _ _ h]; rfl
      have rf3 : w3.frozen? ⟨gr, 0, none⟩ = false := by
        have := b4.block gr C2.l1
        have h := C2.r
        rw [← this] at h
        exact frozen_of_row _ _ _ _ _ h
      rw [show (rwOf u).mkr = false from h2'] at c2
      obtain ⟨v3a, v3c, rfl, _⟩ := o3.sl
      rw [World.size_alloc] at hr
      obtain ⟨s0, s1, sf⟩ := C2.cells
      have hgr : gr < w1.heap.size := lt_of_block hC1.r
      clear h1 hu h2 h2' C2 b3 b4 o3 hC1 B2 b2
      generalize (X ++ [rwOf u]).length = XL at *
      go_wp2_with (refine app_run rfl _ _ rfl rfl rfl hr ?_)
      go_ret
      exact ⟨by rw [HS.out]; rfl, ⟨_, by rw [HS.out]; exact C3⟩, B3⟩
  · have d1 : decide (m ≤ (X.length : Int)) = true := decide_eq_true (by omega)
    have HS : Hid (stL m X G = (X, false)) := ⟨by unfold stL; rw [if_neg h1]⟩
    clear h1
    go_enter Tryz.func54, Tryz.ntmps54
    go_wp2_with fail
    go_ret
    exact ⟨by rw [HS.out]; rfl, ⟨_, by rw [HS.out]; exact hC⟩, hb⟩
end Go.Proofs.YtgcdnanfnbdjjaaGreat

/- The closure of Versions. -/
namespace Go.Proofs.YtgcdnanfnbdjjaaGreat
set_option linter.unusedVariables false
set_option linter.unusedSimpArgs false
open Go.RowKit
attribute [local go_sem ↓] Go.wp_at_zero Go.wp_at_succ
theorem stV_cut {m : Int} {X : List Rw} {G : List Vs} {R : List Rw} {k : Nat} (hR : rwsL G = R) (hk : k < G.length) (h : k = 0 ∨ (X.length : Int) + (k : Int) ≤ m) (h1 : ¬ (X.length : Int) + (k : Int) < m) : stV m X G = (X ++ R.take k, false) := by
  have hq : (m - (X.length : Int)).toNat = k := by
    rcases h with q | q
    · subst q; omega
    · omega
  unfold stV
  rw [hq, hR, decide_eq_false (Nat.not_le.2 hk)]
theorem stV_all {m : Int} {X : List Rw} {G : List Vs} {R : List Rw} (hR : rwsL G = R) (hk : 0 < G.length) (h : G.length = 0 ∨ (X.length : Int) + (G.length : Int) ≤ m) : stV m X G = (X ++ R, true) := by
  have hq : G.length ≤ (m - (X.length : Int)).toNat := by
    rcases h with q | q
    · omega
    · omega
  have hl := rwsL_len G
  unfold stV
  rw [hR] at hl
  rw [hR, decide_eq_true hq, List.take_of_length_le (by rw [hl]; exact hq)]
/-- a row behind one's own: where it lies, and what stays -/
theorem run_wor {W : World} {base : Nat} {w : World} {v : Value} {X : List Rw} {g : Nat} (ty : TypeId) (r : Rw) (hW : W.heap = (w.alloc (.cells (wcs r).toArray 73)).heap) (hO : Wo base w v X) (hg : g = w.heap.size) (hn : X.length ≤ 1954687338260) :
    ∃ g' c' w', (Builtin.append_ #[58, 58] ty #[v, .slice (some ⟨g, 0, none⟩) 1 1]).run Tryz.prog W = .ok (.slice (some ⟨g', 0, none⟩) (X.length + 1) c') w' ∧ Wo base w' (.slice (some ⟨g', 0, none⟩) (X.length + 1) c') (X ++ [r]) ∧ Below base W w' ∧ (∀ x, x < W.heap.size → v.ownBlock ≠ some x → w'.heap[x]? = W.heap[x]?) ∧ (v.ownBlock = some g' ∨ W.heap.size ≤ g') := by
  subst hg
  obtain ⟨i0, hi, hz0, hz1, hz2⟩ := info_parts infoWf
  have hmx : maxLen = 9223372036854775807 := rfl
  have hWs : W.heap.size = w.heap.size + 1 := by rw [hW]; simp
  have hWn : W.heap[w.heap.size]? = some (.cells (wcs r).toArray 73 (0, 0)) := by rw [hW]; exact heap_alloc_new _ _
  have hle := hO.le
  have o1 : W.ownsRow base 73 4 v X.length (wcells X) := own_same hO.own (fun k hk => by rw [hW]; exact heap_alloc_old _ _ (hO.own.lt k hk).2)
  obtain ⟨g2, cap2, w', hr, hown, hgrow, hat, hlt⟩ := run_append_lies (P := Tryz.prog) (w := W) 58 ty base 73 i0 _ 4 40 Tryz.underlying58 hi hz0 hz1 hz2 rfl (by omega) v X.length (wcells X) o1 ⟨w.heap.size, 0, none⟩ 1 1 (wcs r) rfl
    (World.news_of_block (cs := (wcs r).toArray) (t := 73) (fr := (0, 0)) hWn) (wcs_one r) (by omega) (by rw [hmx]; omega) (by omega) (by omega) _ rfl
  refine ⟨g2, cap2, w', hr, ⟨?_, by have := hgrow.size; omega⟩, grown_below o1 (by omega) hgrow, fun x hx hne => hgrow.block x hx (Ne.symm hne), hat.imp id (fun q => Nat.le_of_eq q.symm)⟩
  rw [wcells_append, List.length_append]
  have : wcells [r] = wcs r := by simp [wcells]
  rw [this]; exact hown
/-- what the loop keeps: the variables, the rows that are gone through, apart -/
structure Vk (base : Nat) (w : World) (gr gm : Nat) (v : Value) (X : List Rw) (m : Int) (B : Nat) (src : Value) (S : List Rw) : Prop where
  c : Cl base w gr gm v X m
  s : Wo B w src S
  lo : gr < B ∧ gm < B
  ap : ∀ b, v.ownBlock = some b → src.ownBlock ≠ some b
theorem Vk.later {base gr gm B : Nat} {w w' : World} {v src : Value} {X S : List Rw} {m : Int} (h : Vk base w gr gm v X m B src S) (hb : Below w.heap.size w w') : Vk base w' gr gm v X m B src S := ⟨h.c.later hb, h.s.later hb, h.lo, h.ap⟩
theorem Vk.step {base gr gm B : Nat} {w W w' : World} {v src : Value} {X S : List Rw} {m : Int} {g' c' : Nat} {r : Rw} (h : Vk base w gr gm v X m B src S) (hbW : Below w.heap.size w W) (ho : Wo base w' (.slice (some ⟨g', 0, none⟩) (X.length + 1) c') (X ++ [r])) (hb : Below base W w') (hfr : ∀ x, x < W.heap.size → v.ownBlock ≠ some x → w'.heap[x]? = W.heap[x]?) (hat : v.ownBlock = some g' ∨ W.heap.size ≤ g') :
    Vk base (w'.setCell ⟨gr, 0, none⟩ (.slice (some ⟨g', 0, none⟩) (X.length + 1) c')) gr gm (.slice (some ⟨g', 0, none⟩) (X.length + 1) c') (X ++ [r]) m B src S := by
  have hs1 := h.s.later hbW
  have hs2 : Wo B w' src S := ⟨own_same hs1.own (fun g hg => hfr g (hs1.own.lt g hg).2 (fun q => h.ap g q hg)), Nat.le_trans hs1.le hb.size⟩
  refine ⟨(h.c.later hbW).set hb ho, ⟨ownsRow_setCell_other hs2.own (a := ⟨gr, _, none⟩) (fun q => ?_) _, by simpa using hs2.le⟩, h.lo, fun b hb' q => ?_⟩
  · have h5 : B ≤ gr := (hs2.own.lt _ q).1
    have := h.lo.1
    omega
  · have e : b = g' := by simpa [Value.ownBlock] using hb'.symm
    subst e
    rcases hat with z | z
    · exact h.ap _ z q
    · have := (hs1.own.lt _ q).2
      omega
set_option maxRecDepth 100000 in
set_option maxHeartbeats 4000000 in
theorem bVersions1_any (G : List Vs) (w0 w : World) (a : Option Addr) (n cap base gr gm : Nat) (v : Value) (X : List Rw) (m : Int) (hL : Li w0 G a n cap) (hb : Below w0.heap.size w0 w) (hC : Cl base w gr gm v X m) (h0 : w0.heap.size ≤ gr) (hB : w0.heap.size ≤ base) (hm : m ≤ 256) (hX : X.length ≤ 1000) (hG : 0 < G.length) :
    Calls Tryz.prog 56 #[.slice a n cap, .pointer (some ⟨gr, 0, none⟩), .pointer (some ⟨gm, 0, none⟩)] w fun e w' => e = .returned (.bool (stV m X G).2) ∧ (∃ v', Cl base w' gr gm v' (stV m X G).1 m) ∧ Below w0.heap.size w0 w' := by
  obtain rfl := hL.n
  have hrw := rows_any G w a _ cap (hL.later hb)
  have hlG := hL.l
  go_enter Tryz.func56, Tryz.ntmps56
  go_wp2_with fail
  with_reducible refine Calls.mono hrw ?_
  rintro e w1 ⟨rv, rfl, ow, b1⟩
  obtain ⟨qa, qc, rfl, hw⟩ := ow.sl
  dsimp only
  have K0 : Hid (Vk base w1 gr gm v X m w.heap.size (.slice qa (rwsL G).length qc) (rwsL G)) := ⟨⟨hC.later b1, ow, ⟨lt_of_block hC.r, lt_of_block hC.q⟩, fun b h1 h2 => by
    have := (hC.o.own.lt _ h1).2
    have := (ow.own.lt _ h2).1
    omega⟩⟩
  have B1 := Hid.mk (hb.trans (b1.mono hb.size))
  have hrl := rwsL_len G
  clear hC hb b1 hw ow hrw hL
  generalize hR : rwsL G = R at *
  have HR := Hid.mk hR
  clear hR
  rw [hrl]
  have hrl' := Hid.mk hrl
  clear hrl
  rw [hrl'.out] at K0
  go_wp2_with fail
  go_loopw [10] (fun i wr => ∃ k : Nat, k ≤ G.length ∧ i = .int .i64 (k : Int) ∧ Hid (k = 0 ∨ (X.length : Int) + (k : Int) ≤ m) ∧ Hid (∃ v, Vk base wr gr gm v (X ++ R.take k) m w.heap.size (.slice qa G.length qc) R) ∧ Hid (Below w0.heap.size w0 wr)) (fun i _ => G.length - (intOf i).toNat)
  case atStart => exact ⟨0, by omega, rfl, ⟨.inl rfl⟩, ⟨v, by simpa using K0.out⟩, B1⟩
  case round =>
    clear K0 B1
    obtain ⟨k, hk, rfl, HK, HV, hb⟩ := hrel
    obtain ⟨v2, V2⟩ := HV.out
    have hXk : (X ++ R.take k).length = X.length + k := by rw [List.length_append, List.length_take, hrl'.out]; omega
    by_cases hlt : k < G.length
    · have d1 : decide ((k : Int) < (G.length : Int)) = true := decide_eq_true (by omega)
      have k2 : (k : Int) < (G.length : Int) := by omega
      obtain ⟨r, hr0⟩ : ∃ r, R[k]? = some r := ⟨R[k]'(by rw [hrl'.out]; exact hlt), List.getElem?_eq_getElem _⟩
      obtain ⟨qa', qc', e', hw⟩ := V2.s.sl
      injection e' with e1 e2 e3
      clear e2
      subst e1 e3
      obtain ⟨b, off, rfl, hbl, c0, c1, c2, c3⟩ := hw.get k r hr0
      obtain ⟨ra, rc, rfl, _⟩ := V2.c.o.sl
      have bx := (Below.refl wr.heap.size wr).alloc (Nat.le_refl _) (.cells #[str r.key, .int .i64 r.seq, .bool r.mkr, .int .i64 r.size] 73)
      have V3 := V2.later bx
      obtain ⟨p0, p1, pf⟩ := V3.c.cells
      obtain ⟨p0', p1', _⟩ := V2.c.cells
      have hgr : gr < wr.heap.size := lt_of_block V2.c.r
      have hgm : gm < wr.heap.size := lt_of_block V2.c.q
      have hw1 : wrap64 ((k : Int) + 1) = ((k + 1 : Nat) : Int) := by unfold wrap64; omega
      by_cases h1 : (X.length : Int) + (k : Int) < m
      · have d2 : decide (m ≤ ((X ++ R.take k).length : Int)) = false := decide_eq_false (by rw [hXk]; omega)
        obtain ⟨g3, c3', w3, hr, o3, b3, fr3, at3⟩ := run_wor (W := (wr.alloc (.cells #[str r.key, .int .i64 r.seq, .bool r.mkr, .int .i64 r.size] 73)).alloc (.cells #[str r.key, .int .i64 r.seq, .bool r.mkr, .int .i64 r.size] 73)) 58 r rfl V3.c.o rfl (by omega)
        have bW := (Below.refl (wr.alloc (.cells #[str r.key, .int .i64 r.seq, .bool r.mkr, .int .i64 r.size] 73)).heap.size (wr.alloc (.cells #[str r.key, .int .i64 r.seq, .bool r.mkr, .int .i64 r.size] 73))).alloc (Nat.le_refl _) (.cells #[str r.key, .int .i64 r.seq, .bool r.mkr, .int .i64 r.size] 73)
        have V4 := V3.step bW o3 b3 fr3 at3
        have HT : Hid ((X ++ R.take k) ++ [r] = X ++ R.take (k + 1)) := ⟨by rw [takeV hr0, List.append_assoc]⟩
        have b4 := (bW.mono V3.c.o.le).trans b3
        have B4 := (hb.out.trans (bx.mono hb.out.size)).trans (b4.mono hB) |>.setCell (p := ⟨gr, 0, none⟩) h0 (.slice (some ⟨g3, 0, none⟩) ((X ++ R.take k).length + 1) c3')
        have hrr : w3.heap[gr]? = some (.cells #[.slice ra (X ++ R.take k).length rc] 58 (0, 0)) := by
          rw [b4.block gr V3.c.l1]; exact V3.c.r
        have r3 : w3.cell? ⟨gr, 0, none⟩ = some (.slice ra (X ++ R.take k).length rc) := by rw [cell_of_row _ _ _ _ _ _ hrr]; rfl
        have rf3 : w3.frozen? ⟨gr, 0, none⟩ = false := frozen_of_row _ _ _ _ _ hrr
        rw [World.size_alloc] at hr
        have HV4 := Hid.mk V4
        have HB4 := Hid.mk B4
        have HK2 : Hid (k + 1 = 0 ∨ (X.length : Int) + ((k + 1 : Nat) : Int) ≤ m) := ⟨.inr (by omega)⟩
        clear V4 V3 V2 B4 b4 bW b3 o3 fr3 at3 hrr hw hr0 bx HV hXk h1 HK hm hX hlG hG h0 hB hb
        generalize (X ++ R.take k).length = XL at *
        go_wp2_with (refine app_run rfl _ _ rfl rfl rfl hr ?_)
        exact ⟨⟨k + 1, by omega, by first | (rw [hw1]; done) | go_num, HK2, ⟨_, by rw [← HT.out]; exact HV4.out⟩, HB4⟩, by first | (rw [hw1]; exact Nat.sub_lt_sub_left hlt (Nat.lt_succ_self k)) | (simp [intOf]; omega)⟩
      · have d2 : decide (m ≤ ((X ++ R.take k).length : Int)) = true := decide_eq_true (by rw [hXk]; omega)
        have HS := Hid.mk (stV_cut HR.out hlt HK.out h1)
        have C4 := Hid.mk V3.c
        have B4 := hb.out.trans (bx.mono hb.out.size)
        clear V3 V2 hw hr0 bx HV hXk h1 HK hm hX hlG hG h0 hB hb
        generalize (X ++ R.take k).length = XL at *
        go_wp2_with fail
        go_ret
        exact ⟨by rw [HS.out]; rfl, ⟨_, by rw [HS.out]; exact C4.out⟩, B4⟩
    · obtain rfl : k = G.length := by omega
      have d1 : decide ((G.length : Int) < (G.length : Int)) = false := decide_eq_false (by omega)
      have hRt : R.take G.length = R := by rw [← hrl'.out]; exact List.take_length
      have HS := Hid.mk (stV_all HR.out hG HK.out)
      rw [hRt] at V2
      have C4 := Hid.mk V2.c
      clear V2 HV hXk HK
      go_wp2_with fail
      go_ret
      exact ⟨by rw [HS.out]; rfl, ⟨_, by rw [HS.out]; exact C4.out⟩, hb.out⟩
end Go.Proofs.YtgcdnanfnbdjjaaGreat
