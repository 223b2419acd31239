import Derived.Test.YtgcdnanfnbdjjaaGreatBq
import Derived.Test.YtgcdnanfnbdjjaaGreatRun
/- Concat of three lists of versions. -/
namespace Go.Proofs.YtgcdnanfnbdjjaaGreat
set_option linter.unusedVariables false
set_option linter.unusedSimpArgs false
open Go.RowKit
attribute [local go_sem ↓] Go.wp_at_zero Go.wp_at_succ
attribute [local go_sem ↓] slVe
/-- a row of versions of one's own; whose the pairs' rows are is not told -/
structure Ro (base : Nat) (w : World) (v : Value) (R : List Rv) : Prop where
  own : w.ownsRow base 39 5 v R.length (rcells R)
  le : base ≤ w.heap.size
theorem Fo.ro {base : Nat} {w : World} {v : Value} {R : List Rv} (h : Fo base w v R) : Ro base w v R := ⟨h.own, h.le⟩
theorem Ro.later {base : Nat} {w w' : World} {v : Value} {R : List Rv} (h : Ro base w v R) (hb : Below w.heap.size w w') : Ro base w' v R := ⟨own_same h.own (fun g hg => hb.block g (h.own.lt g hg).2), Nat.le_trans h.le hb.size⟩
theorem Ro.nil (w : World) (base : Nat) (h : base ≤ w.heap.size) : Ro base w (.slice none 0 0) [] := ⟨World.ownsRow_nil _ _ _ _, h⟩
theorem Ro.sl {base : Nat} {w : World} {v : Value} {R : List Rv} (h : Ro base w v R) : ∃ a c, v = .slice a R.length c := by
  rcases h.own.2 with ⟨rfl, h0⟩ | ⟨g, cap, cur, rfl, _⟩
  · exact ⟨none, 0, by rw [h0]⟩
  · exact ⟨_, cap, rfl⟩
/-- a list laid behind a row -/
theorem run_ros {W : World} {base b2 : Nat} {v : Value} {R R2 : List Rv} (ty : TypeId) {ad : Option Addr} {n c : Nat} (f1 : Ro base W v R) (k1 : Ro b2 W (.slice ad n c) R2) (hn : R.length + R2.length ≤ 1954687338260) :
    ∃ v' w', (Builtin.append_ #[22, 22] ty #[v, .slice ad n c]).run Tryz.prog W = .ok v' w' ∧ Ro base w' v' (R ++ R2) ∧ Below base W w' := by
  obtain ⟨i0, hi0, hz0, hz1, hz2⟩ := infoV
  have hmx : maxLen = 9223372036854775807 := rfl
  rcases k1.own.2 with ⟨e, h0⟩ | ⟨g, cap, cur, e, hg, hc, g1, g2, g3, g4⟩
  · injection e with e1 e2 e3
    subst e1 e2 e3
    have hq : R2 = [] := List.eq_nil_of_length_eq_zero h0
    subst hq
    exact ⟨v, W, run_append_owned_none (P := Tryz.prog) W base 22 ty 39 i0 5 Tryz.underlying22 hi0 _ R.length (rcells R) f1.own, by simpa using f1, Below.refl _ _⟩
  · injection e with e1 e2 e3
    subst e1 e2 e3
    have hcells : ∀ j u, (rcells R2)[j]? = some u → W.cell? ((⟨g, 0, none⟩ : Addr).add j) = some u := fun j u hj => by
      rw [addr_add, Nat.zero_add]
      have := rcells_length R2
      have hlt := (List.getElem?_eq_some_iff.1 hj).1
      rw [k1.own.cellAt j (by omega)]
      exact hj
    rcases Nat.eq_zero_or_pos R2.length with h0 | h0
    · have hq : R2 = [] := List.eq_nil_of_length_eq_zero h0
      subst hq
      obtain ⟨v', w', hr, hown, hgrow, _⟩ := run_append_own_wide (P := Tryz.prog) (w := W) base 22 ty 39 i0 _ 5 72 Tryz.underlying22 hi0 hz0 hz1 hz2 rfl (by omega) v R.length (rcells R) f1.own ⟨g, 0, none⟩ 0 c [] rfl (by simp) (by simp) (by rw [hmx]; omega) (by omega) f1.le
      exact ⟨v', w', hr, ⟨by simpa using hown, Nat.le_trans f1.le hgrow.size⟩, grown_below f1.own f1.le hgrow⟩
    · obtain ⟨gg, cap2, w', hr, hown, hgrow, hat, hlt⟩ := run_append_lies (P := Tryz.prog) (w := W) 22 ty base 39 i0 _ 5 72 Tryz.underlying22 hi0 hz0 hz1 hz2 rfl (by omega) v R.length (rcells R) f1.own ⟨g, 0, none⟩ R2.length c (rcells R2) (rcells_length R2) hcells (rcells_one R2) h0 (by rw [hmx]; omega) (by omega) f1.le _ rfl
      refine ⟨_, w', hr, ⟨?_, Nat.le_trans f1.le hgrow.size⟩, grown_below f1.own f1.le hgrow⟩
      rw [rcells_append, List.length_append]; exact hown
abbrev zV : Value := .agg #[.string ⟨#[]⟩, .int .i64 0, .bool false, .string ⟨#[]⟩, .slice none 0 0]
theorem zc_sizeV (m : Nat) : (Builtin.zeroCells zV.cells m).size = m * 5 := by
  rw [size_zeroCells]; rfl
theorem run_growV (w : World) (ty : TypeId) (m : Nat) (h0 : 0 < m) (hm : m ≤ 1954687338260) :
    ∃ cap, m ≤ cap ∧ cap ≤ 9223372036854775807 ∧ (Builtin.append_ #[22, 3] ty #[.slice none 0 0, .int .i64 (m : Int)]).run Tryz.prog w = .ok (.slice (some ⟨w.heap.size, 0, none⟩) m cap) (w.drew.alloc (.cells (Builtin.zeroCells zV.cells m ++ Builtin.zeroCells zV.cells (cap - m)) 39)) := by
  obtain ⟨i0, hi0, hz0, hz1, hz2⟩ := infoV
  have hw : IntKind.i64.wrap (m : Int) = (m : Int) := by rw [IntKind.wrap_i64]; omega
  refine ⟨grownCap w m 0 39, grownCap_ge w m 0 39, grownCap_le_maxLen w _ _ _ (by show _ ≤ 9223372036854775807; omega), ?_⟩
  have hn : m ≠ 0 := by omega
  have h63' : ¬ (9223372036854775807 < (m : Int)) := by omega
  have hneg : ¬ ((m : Int) < 0) := by omega
  have h48' : ¬ (281474976710656 < Builtin.nextslicecap m 0 * 72) := by rw [nextslicecap_zero h0]; omega
  have hbig : ¬ ((281474976710656 : Int) < m * 72) := by omega
  have hn2 : m * 5 ≠ 0 := by omega
  simp [Builtin.append_, run_underlying Tryz.underlying22, run_underlying Tryz.underlying3, sizeOf, typeInfo, zeroValue, hi0, hz0, Builtin.lenOf, hn, h63', h48', Question.forced, run_firstCells_none, newRow, grownCap, asInt, asIntOf, hw, hneg, hbig, Builtin.firstCells, hz1, hz2, hn2]
set_option maxRecDepth 100000 in
theorem grow_any (m : Nat) (w : World) (hm : m ≤ 1954687338260) :
    Calls Tryz.prog 93 #[.slice none 0 0, .int .i64 (m : Int)] w fun e w' => ∃ v, e = .returned v ∧ Ro w.heap.size w' v [] ∧ Below w.heap.size w w' := by
  by_cases h0 : m = 0
  · subst h0
    go_enter Tryz.func93, Tryz.ntmps93
    go_wp2_with fail
    go_ret
    exact ⟨_, rfl, Ro.nil _ _ (Nat.le_refl _), Below.refl _ _⟩
  · have d1 : decide ((m : Int) < 0) = false := decide_eq_false (by omega)
    have d2 : decide ((0 : Int) < (m : Int)) = true := decide_eq_true (by omega)
    have r0 : ∀ w, (slV (.slice none 0 0) none (some (.int .i64 0)) none).run Tryz.prog w = .ok (.slice none 0 0) w := fun w => run_slV none 0 0 0 (by omega) (by omega) (fun _ => rfl) w
    obtain ⟨cap, c1, c2, hr⟩ := run_growV w 22 m (by omega) hm
    have r1 : ∀ w', (slV (.slice (some ⟨w.heap.size, 0, none⟩) m cap) none (some (.int .i64 0)) none).run Tryz.prog w' = .ok (.slice (some ⟨w.heap.size, 0, none⟩) 0 cap) w' := fun w' => run_slV _ m cap 0 (by omega) c2 (fun h => by cases h) w'
    have HO : Hid (Ro w.heap.size (w.drew.alloc (.cells (Builtin.zeroCells zV.cells m ++ Builtin.zeroCells zV.cells (cap - m)) 39)) (.slice (some ⟨w.heap.size, 0, none⟩) 0 cap) []) :=
      ⟨⟨⟨rfl, Or.inr ⟨w.heap.size, cap, _, rfl, Nat.le_refl _, heap_alloc_new w.drew _, Nat.zero_le _, c2, by rw [Array.size_append, zc_sizeV, zc_sizeV]; omega, by simp [rcells]⟩⟩, by simp⟩⟩
    have HB : Hid (Below w.heap.size w (w.drew.alloc (.cells (Builtin.zeroCells zV.cells m ++ Builtin.zeroCells zV.cells (cap - m)) 39))) := ⟨(Below.refl _ _).drew.alloc (Nat.le_refl _) _⟩
    generalize w.drew.alloc (.cells (Builtin.zeroCells zV.cells m ++ Builtin.zeroCells zV.cells (cap - m)) 39) = w9 at *
    go_enter Tryz.func93, Tryz.ntmps93
    go_wp2_with (refine app_run rfl _ _ rfl rfl rfl hr ?_)
    go_ret
    exact ⟨_, rfl, HO.out, HB.out⟩
set_option maxRecDepth 100000 in
set_option maxHeartbeats 4000000 in
theorem concat_any (X Y Z : List Rv) (w : World) (g bx by' bz : Nat) (x y z : Value) (hg : w.heap[g]? = some (.cells #[x, y, z] 22 (0, 0))) (hX : Ro bx w x X) (hY : Ro by' w y Y) (hZ : Ro bz w z Z) (hl : X.length + Y.length + Z.length ≤ 1954687338260) :
    Calls Tryz.prog 81 #[.slice (some ⟨g, 0, none⟩) 3 3] w fun e w' => ∃ v, e = .returned v ∧ Ro w.heap.size w' v (X ++ Y ++ Z) ∧ Below w.heap.size w w' := by
  have hgl : g < w.heap.size := by
    rcases Nat.lt_or_ge g w.heap.size with q | q
    · exact q
    · rw [Array.getElem?_eq_none q] at hg; cases hg
  obtain ⟨ax, cx, rfl⟩ := hX.sl
  obtain ⟨ay, cy, rfl⟩ := hY.sl
  obtain ⟨az, cz, rfl⟩ := hZ.sl
  have cs : Hid (∀ w', Below w.heap.size w w' → w'.cell? ⟨g, 0, none⟩ = some (.slice ax X.length cx) ∧ w'.cell? ⟨g, 1, none⟩ = some (.slice ay Y.length cy) ∧ w'.cell? ⟨g, 2, none⟩ = some (.slice az Z.length cz)) := ⟨fun w' hb => by
    have hr : w'.heap[g]? = some (.cells #[.slice ax X.length cx, .slice ay Y.length cy, .slice az Z.length cz] 22 (0, 0)) := by rw [hb.block g hgl]; exact hg
    exact ⟨by rw [cell_of_row _ _ _ _ _ _ hr]; rfl, by rw [cell_of_row _ _ _ _ _ _ hr]; rfl, by rw [cell_of_row _ _ _ _ _ _ hr]; rfl⟩⟩
  have hgr := fun w => grow_any (X.length + Y.length + Z.length) w hl
  rw [Int.natCast_add, Int.natCast_add] at hgr
  clear hg
  go_enter Tryz.func81, Tryz.ntmps81
  go_wp2_with fail
  go_loopw [3, 11] (fun s i wr => (i = .int .i64 0 ∧ s = .int .i64 0 ∨ i = .int .i64 1 ∧ s = .int .i64 (X.length : Int) ∨ i = .int .i64 2 ∧ s = .int .i64 ((X.length : Int) + (Y.length : Int)) ∨ i = .int .i64 3 ∧ s = .int .i64 ((X.length : Int) + (Y.length : Int) + (Z.length : Int))) ∧ wr = w) (fun _ i _ => 3 - (intOf i).toNat)
  case atStart => exact ⟨Or.inl ⟨rfl, rfl⟩, rfl⟩
  case round =>
    obtain ⟨c0, c1, c2⟩ := cs.out w (Below.refl _ _)
    obtain ⟨h, rfl⟩ := hrel
    rcases h with ⟨rfl, rfl⟩ | ⟨rfl, rfl⟩ | ⟨rfl, rfl⟩ | ⟨rfl, rfl⟩
    · have d1 : decide ((X.length : Int) < 0) = false := decide_eq_false (by omega)
      go_wp2_with fail
      exact ⟨⟨Or.inr (Or.inl ⟨rfl, rfl⟩), trivial⟩, by simp [intOf]⟩
    · have d1 : decide ((X.length : Int) + (Y.length : Int) < 0) = false := decide_eq_false (by omega)
      go_wp2_with fail
      exact ⟨⟨Or.inr (Or.inr (Or.inl ⟨rfl, rfl⟩)), trivial⟩, by simp [intOf]⟩
    · have d1 : decide ((X.length : Int) + (Y.length : Int) + (Z.length : Int) < 0) = false := decide_eq_false (by omega)
      go_wp2_with fail
      exact ⟨⟨Or.inr (Or.inr (Or.inr ⟨rfl, rfl⟩)), trivial⟩, by simp [intOf]⟩
    · clear c0 c1 c2
      go_wp2_with (go_at_call 93; refine (hgr _).mono ?_; rintro e w1 ⟨v1, rfl, o1, b1⟩)
      go_loopw [6, 27] (fun s i wr2 => (i = .int .i64 0 ∧ Hid (Ro wr.heap.size wr2 s []) ∨ i = .int .i64 1 ∧ Hid (Ro wr.heap.size wr2 s X) ∨ i = .int .i64 2 ∧ Hid (Ro wr.heap.size wr2 s (X ++ Y)) ∨ i = .int .i64 3 ∧ Hid (Ro wr.heap.size wr2 s (X ++ Y ++ Z))) ∧ Below wr.heap.size wr wr2) (fun _ i _ => 3 - (intOf i).toNat)
      case atStart => exact ⟨Or.inl ⟨rfl, ⟨o1⟩⟩, b1⟩
      case round =>
        obtain ⟨h, hb⟩ := hrel
        obtain ⟨c0, c1, c2⟩ := cs.out _ hb
        rcases h with ⟨rfl, o2⟩ | ⟨rfl, o2⟩ | ⟨rfl, o2⟩ | ⟨rfl, o2⟩
        · obtain ⟨v3, w3, hr, o3, b3⟩ := run_ros 22 o2.out (hX.later hb) (by simp; omega)
          go_wp2_with (refine app_run rfl _ _ rfl rfl rfl hr ?_)
          exact ⟨⟨Or.inr (Or.inl ⟨rfl, ⟨by simpa using o3⟩⟩), hb.trans b3⟩, by simp [intOf]⟩
        · obtain ⟨v3, w3, hr, o3, b3⟩ := run_ros 22 o2.out (hY.later hb) (by omega)
          go_wp2_with (refine app_run rfl _ _ rfl rfl rfl hr ?_)
          exact ⟨⟨Or.inr (Or.inr (Or.inl ⟨rfl, ⟨o3⟩⟩)), hb.trans b3⟩, by simp [intOf]⟩
        · obtain ⟨v3, w3, hr, o3, b3⟩ := run_ros 22 o2.out (hZ.later hb) (by rw [List.length_append]; omega)
          go_wp2_with (refine app_run rfl _ _ rfl rfl rfl hr ?_)
          exact ⟨⟨Or.inr (Or.inr (Or.inr ⟨rfl, ⟨o3⟩⟩)), hb.trans b3⟩, by simp [intOf]⟩
        · go_wp2_with fail
          go_ret
          exact ⟨_, rfl, o2.out, hb⟩
end Go.Proofs.YtgcdnanfnbdjjaaGreat

/- exchanged. -/
namespace Go.Proofs.YtgcdnanfnbdjjaaGreat
set_option linter.unusedVariables false
set_option linter.unusedSimpArgs false
open Go.RowKit
attribute [local go_sem ↓] Go.wp_at_zero Go.wp_at_succ
attribute [local go_sem ↓] slVe
/-- the pairs' rows of some versions: of one's own, no two of them one, within two bounds -/
structure Mt (base lo hi : Nat) (w : World) (R : List Rv) : Prop where
  met : ∀ (k : Nat) (r : Rv), R[k]? = some r → Ow base w r.mv (r.v.l ++ r.z)
  par : ∀ (j k : Nat) (r r' : Rv), ¬ j = k → R[j]? = some r → R[k]? = some r' → ∀ b, r.mv.ownBlock = some b → r'.mv.ownBlock ≠ some b
  rng : ∀ (k : Nat) (r : Rv), R[k]? = some r → ∀ b, r.mv.ownBlock = some b → lo ≤ b ∧ b < hi
theorem Fo.mt {base : Nat} {w : World} {v : Value} {R : List Rv} (h : Fo base w v R) : Mt base base w.heap.size w R := ⟨h.met, h.par, fun k r hr b hb => (h.met k r hr).own.lt b hb⟩
theorem Mt.later {base lo hi : Nat} {w w' : World} {R : List Rv} (h : Mt base lo hi w R) (hb : Below w.heap.size w w') : Mt base lo hi w' R := ⟨fun k r hr => (h.met k r hr).later hb, h.par, h.rng⟩
theorem Mt.base {b b' lo hi : Nat} {w : World} {R : List Rv} (h : Mt b lo hi w R) (hb : b' ≤ b) : Mt b' lo hi w R := ⟨fun k r hr => (h.met k r hr).base hb, h.par, h.rng⟩
theorem Mt.mono {b lo hi lo' hi' : Nat} {w : World} {R : List Rv} (h : Mt b lo hi w R) (h1 : lo' ≤ lo) (h2 : hi ≤ hi') : Mt b lo' hi' w R := ⟨h.met, h.par, fun k r hr x hx => by have := h.rng k r hr x hx; omega⟩
/-- two that lie apart, side by side -/
theorem Mt.append {base lo hi l1 h1 l2 h2 : Nat} {w : World} {X Y : List Rv} (hX : Mt base l1 h1 w X) (hY : Mt base l2 h2 w Y) (hd : h1 ≤ l2 ∨ h2 ≤ l1) (q1 : lo ≤ l1) (q2 : lo ≤ l2) (q3 : h1 ≤ hi) (q4 : h2 ≤ hi) : Mt base lo hi w (X ++ Y) := by
  have cut : ∀ (k : Nat) (r : Rv), (X ++ Y)[k]? = some r → (k < X.length ∧ X[k]? = some r) ∨ (X.length ≤ k ∧ Y[k - X.length]? = some r) := fun k r hr => by
    by_cases hk : k < X.length
    · rw [List.getElem?_append_left hk] at hr; exact .inl ⟨hk, hr⟩
    · rw [List.getElem?_append_right (by omega)] at hr; exact .inr ⟨by omega, hr⟩
  refine ⟨fun k r hr => ?_, fun j k r r' hjk hj hk b hb hb' => ?_, fun k r hr b hb => ?_⟩
  · rcases cut k r hr with ⟨_, q⟩ | ⟨_, q⟩
    · exact hX.met _ _ q
    · exact hY.met _ _ q
  · rcases cut j r hj with ⟨n1, q⟩ | ⟨n1, q⟩ <;> rcases cut k r' hk with ⟨n2, q'⟩ | ⟨n2, q'⟩
    · exact hX.par j k r r' hjk q q' b hb hb'
    · have := hX.rng _ _ q b hb; have := hY.rng _ _ q' b hb'; omega
    · have := hY.rng _ _ q b hb; have := hX.rng _ _ q' b hb'; omega
    · exact hY.par _ _ r r' (by omega) q q' b hb hb'
  · rcases cut k r hr with ⟨_, q⟩ | ⟨_, q⟩
    · have := hX.rng _ _ q b hb; omega
    · have := hY.rng _ _ q b hb; omega
theorem Ro.fo {base b2 lo hi : Nat} {w : World} {v : Value} {R : List Rv} (h : Ro base w v R) (hb : b2 ≤ base) (hm : Mt b2 lo hi w R) : Fo b2 w v R :=
  ⟨⟨h.own.1, by
    rcases h.own.2 with e | ⟨g, cap, cur, e1, e2, e3⟩
    · exact Or.inl e
    · exact Or.inr ⟨g, cap, cur, e1, Nat.le_trans hb e2, e3⟩⟩, Nat.le_trans hb h.le, hm.met, hm.par⟩
set_option maxRecDepth 100000 in
set_option maxHeartbeats 4000000 in
theorem exchanged_any (L : List Vs) (i j : Nat) (hij : i ≤ j) (hj : j ≤ L.length) (O : List Vs) (w : World) (a : Option Addr) (n cap base : Nat) (ov : Value) (hL : Li w L a n cap) (hO : Cp base w ov O) (hs : i + O.length + (L.length - j) ≤ 1954687338260) :
    Calls Tryz.prog 52 #[.slice a n cap, .int .i64 (i : Int), .int .i64 (j : Int), ov] w fun e w' => ∃ v, e = .returned v ∧ Cp base w' v (L.take i ++ O ++ L.drop j) ∧ Below w.heap.size w w' := by
  obtain rfl := hL.n
  obtain ⟨oa, oc, rfl, _⟩ := hO.ls
  have hl := hL.l
  have hle := hL.s.le
  have hmax := hL.s.max
  have r1 := fun w => run_slV a L.length cap i (by omega) hmax hL.s.nil w
  have r2 := fun w => run_slV_lo a L.length cap j hj hle hmax hL.s.nil w
  have hc1 := fun w' (hb : Below w.heap.size w w') => bcopies_any (L.take i) w' a i cap (by rw [List.length_take]; omega) ((hL.s.later hb).take i) (by rw [List.length_take]; omega) (fun v hv => hL.z v (List.mem_of_mem_take hv))
  have hc2 := fun w' (hb : Below w.heap.size w w') => bcopies_any (L.drop j) w' (dropV a cap j) (L.length - j) (cap - j) (by rw [List.length_drop]) ((hL.s.later hb).drop j hj) (by rw [List.length_drop]; omega) (fun v hv => hL.z v (List.mem_of_mem_drop hv))
  have HS : Hid (∀ w', Below w.heap.size w w' → Below w.heap.size w w' ∧ True) := ⟨fun w' h => ⟨h, trivial⟩⟩
  have HC : Hid (∀ (r1 r2 : Value) (w1 w2 : World), Below w.heap.size w w1 → Cp w.heap.size w1 r1 (L.take i) → Cp w1.heap.size w2 r2 (L.drop j) → Below w1.heap.size w1 w2 → Calls Tryz.prog 81 #[.slice (some ⟨w2.heap.size, 0, none⟩) 3 3] (w2.alloc (.cells #[r1, .slice oa O.length oc, r2] 22)) fun e w' => ∃ v, e = .returned v ∧ Cp base w' v (L.take i ++ O ++ L.drop j) ∧ Below w2.heap.size w2 w') := ⟨fun r1 r2 w1 w2 b1 c1 c2 b2 => by
    obtain ⟨X, x1, x2, x3⟩ := c1
    obtain ⟨Y, y1, y2, y3⟩ := hO
    obtain ⟨Z, z1, z2, z3⟩ := c2
    have bal := (Below.refl w2.heap.size w2).alloc (Nat.le_refl _) (.cells #[r1, .slice oa O.length oc, r2] 22)
    have s1 := b1.size
    have s2 := b2.size
    have hX : X.length = (L.take i).length := by rw [← x2, List.length_map]
    have hY : Y.length = O.length := by rw [← y2, List.length_map]
    have hZ : Z.length = (L.drop j).length := by rw [← z2, List.length_map]
    rw [List.length_take] at hX
    rw [List.length_drop] at hZ
    have hk := concat_any X Y Z (w2.alloc (.cells #[r1, .slice oa O.length oc, r2] 22)) w2.heap.size _ _ _ r1 (.slice oa O.length oc) r2 (heap_alloc_new _ _) ((x1.ro.later b2).later bal) (((y1.ro.later b1).later b2).later bal) (z1.ro.later bal) (by omega)
    refine Calls.mono hk ?_
    rintro e w' ⟨v, rfl, k, b⟩
    have b' := below_seq bal b
    refine ⟨v, rfl, ⟨X ++ Y ++ Z, ?_, by rw [List.map_append, List.map_append, x2, y2, z2], ?_⟩, b'⟩
    · have mX := ((x1.mt.later b2).later b').base y1.le
      have mY := ((y1.mt.later b1).later b2).later b'
      have mZ := (z1.mt.later b').base (Nat.le_trans y1.le s1)
      have mXY := mX.append (lo := base) (hi := w1.heap.size) mY (.inr (Nat.le_refl _)) y1.le (Nat.le_refl _) (Nat.le_refl _) s1
      exact k.fo (by simp; have := y1.le; omega) (mXY.append (lo := base) (hi := w2.heap.size) mZ (.inl (Nat.le_refl _)) (Nat.le_refl _) (Nat.le_trans y1.le s1) s2 (Nat.le_refl _))
    · intro r hr
      rcases List.mem_append.1 hr with q | q
      · rcases List.mem_append.1 q with q | q
        · exact x3 r q
        · exact y3 r q
      · exact z3 r q⟩
  clear hL hO
  generalize L.take i = A at *
  generalize L.drop j = D at *
  go_enter Tryz.func52, Tryz.ntmps52
  go_wp2_with fail
  go_region_held3 (fun w' => Below w.heap.size w w' ∧ True) (first
    | exact HS.out _ (Below.refl _ _).drew
    | exact HS.out _ (below_seq (And.left (by assumption)) b1)
    | exact HS.out _ (below_seq (And.left (by assumption)) b2)
    | exact HS.out _ (Below.alloc (And.left (by assumption)) (Below.size (w := w) (And.left (by assumption))) _)
    | exact HS.out _ (below_seq (below_seq (below_seq (Below.refl w.heap.size w).drew b1) b2) b3)) (first
    | (go_at_call 82; with_reducible refine Calls.mono (hc1 _ (And.left (by assumption))) ?_; rintro e w1 ⟨r1, rfl, c1, b1⟩; obtain ⟨a1, k1, rfl, _⟩ := c1.ls)
    | (go_at_call 82; with_reducible refine Calls.mono (hc2 _ (And.left (by assumption))) ?_; rintro e w2 ⟨r2, rfl, c2, b2⟩; obtain ⟨a2, k2, rfl, _⟩ := c2.ls)
    | (go_at_call 81; refine Calls.mono (HC.out _ _ w1 w2 (below_seq (Below.refl w.heap.size w).drew b1) c1 c2 b2) ?_; rintro e w3 ⟨v3, rfl, k3, b3⟩))
  have hbw : Below w.heap.size w w3 := And.left (by assumption)
  go_wp2_with fail
  go_ret
  exact ⟨_, rfl, k3, hbw⟩
end Go.Proofs.YtgcdnanfnbdjjaaGreat
