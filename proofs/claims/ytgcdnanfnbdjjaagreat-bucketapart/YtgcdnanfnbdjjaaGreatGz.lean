import Derived.Test.YtgcdnanfnbdjjaaGreatNew
import Derived.RegionCalls
import Derived.Laws.Cover3
/- One version more, within regions that draw their order. -/
namespace Go.Proofs.YtgcdnanfnbdjjaaGreat
set_option linter.unusedVariables false
set_option linter.unusedSimpArgs false
open Go.RowKit
theorem step_run {ops : Array Oper} {o : Oper} {a : Act} {K : Act → World → Prop} {Q : Exit → Act → World → Prop} {E : Prop} {w w' : World} {v x' r : Value} {t1 t2 : TypeId} (hgd : o.guard = none) (s x : Operand) (ho : o.op = .call { callee := .builtin .append, args := #[s, x], argTypes := #[t1, t2] })
    (hs : a.eval s = v) (hx : a.eval x = x') (hr : (Builtin.append_ #[t1, t2] o.type #[v, x']).run Tryz.prog w = .ok r w')
    (h : K (a.put o.dst r) w') : if Region.wanted o (yielded ops a.tmps) = true then Oper.wp Tryz.prog o a w K Q else E := by
  have hw : Region.wanted o (yielded ops a.tmps) = true := by simp [Region.wanted, hgd]
  rw [if_pos hw]
  unfold Oper.wp execOp
  simp only [ho, resolve, invoke, builtin, Sem.run_bind, Sem.run_pure, Result.andThen_ok, List.map_toArray, List.map_cons, List.map_nil, hs, hx, hr]
  exact h
/-- rows laid behind a row -/
theorem Fo.join {base : Nat} {w w' : World} {v : Value} {R R2 : List Rv} {B : Nat} (hO : Fo base w v R) (hm : ∀ (k : Nat) (r : Rv), R2[k]? = some r → Ow B w r.mv (r.v.l ++ r.z)) (hp : ∀ (j k : Nat) (r r' : Rv), ¬ j = k → R2[j]? = some r → R2[k]? = some r' → ∀ b, r.mv.ownBlock = some b → r'.mv.ownBlock ≠ some b)
    (hB : base ≤ B) (hlow : ∀ (k : Nat) (r : Rv), R[k]? = some r → ∀ b, r.mv.ownBlock = some b → b < B) (hsz : w.heap.size ≤ w'.heap.size) (hk : ∀ k, k < w.heap.size → v.ownBlock ≠ some k → w'.heap[k]? = w.heap[k]?) {v' : Value} (hown : w'.ownsRow base 39 5 v' (R.length + R2.length) (rcells R ++ rcells R2)) : Fo base w' v' (R ++ R2) := by
  have hmk : ∀ x l, Ow base w x l → Ow base w' x l := fun x l hx => hx.same hsz (fun g hg => hk g (hx.own.lt g hg).2 (fun q => own_apart hx.own hO.own (by decide) hg q))
  have hgt : ∀ (k : Nat) (r : Rv), R2[k]? = some r → ∀ b, r.mv.ownBlock = some b → B ≤ b := fun k r hr b hb => ((hm k r hr).own.lt b hb).1
  refine ⟨?_, Nat.le_trans hO.le hsz, ?_, ?_⟩
  · rw [rcells_append, List.length_append]; exact hown
  · intro k q hq
    by_cases hkl : k < R.length
    · rw [List.getElem?_append_left hkl] at hq
      exact hmk _ _ (hO.met k q hq)
    · rw [List.getElem?_append_right (by omega)] at hq
      exact hmk _ _ ((hm _ q hq).base hB)
  · intro j k q q' hjk hj hk' b hb hb'
    by_cases hjl : j < R.length
    · rw [List.getElem?_append_left hjl] at hj
      by_cases hkl : k < R.length
      · rw [List.getElem?_append_left hkl] at hk'
        exact hO.par j k q q' hjk hj hk' b hb hb'
      · rw [List.getElem?_append_right (by omega)] at hk'
        have h1 := hlow j q hj b hb
        have h2 := hgt _ q' hk' b hb'
        omega
    · rw [List.getElem?_append_right (by omega)] at hj
      by_cases hkl : k < R.length
      · rw [List.getElem?_append_left hkl] at hk'
        have h1 := hlow k q' hk' b hb'
        have h2 := hgt _ q hj b hb
        omega
      · rw [List.getElem?_append_right (by omega)] at hk'
        exact hp _ _ q q' (by omega) hj hk' b hb hb'
theorem Fo.low {base : Nat} {w : World} {v : Value} {R : List Rv} (h : Fo base w v R) : ∀ (k : Nat) (r : Rv), R[k]? = some r → ∀ b, r.mv.ownBlock = some b → b < w.heap.size := fun k r hr b hb => ((h.met k r hr).own.lt b hb).2
/-- a version behind a copy -/
theorem run_cp {W : World} {base : Nat} {w w1 : World} {v : Value} {L : List Vs} {g : Nat} (ty : TypeId) (u : Vs) {ma : Option Addr} {mn mc : Nat} (hu : mn = u.l.length) (hW : W.heap = (w1.alloc (.cells #[str u.key, .int .i64 u.seq, .bool u.mkr, str u.data, .slice ma mn mc] 39)).heap) (hC : Cp base w v L) (hb : Below w.heap.size w w1) (hm : Ow w.heap.size w1 (.slice ma mn mc) u.l) (hg : g = w1.heap.size) (hn : L.length ≤ 1954687338260) :
    ∃ v' w', (Builtin.append_ #[22, 22] ty #[v, .slice (some ⟨g, 0, none⟩) 1 1]).run Tryz.prog W = .ok v' w' ∧ Cp base w' v' (L ++ [u]) ∧ Below base W w' ∧ w.heap.size ≤ w'.heap.size := by
  obtain ⟨R, h1, h2, h3⟩ := hC
  subst hu hg
  have hl : R.length = L.length := by rw [← h2, List.length_map]
  obtain ⟨i0, hi0, hz0, hz1, hz2⟩ := infoV
  have hmx : maxLen = 9223372036854775807 := rfl
  have hW1 : ∀ k, k < w1.heap.size → W.heap[k]? = w1.heap[k]? := fun k hk => by rw [hW]; exact heap_alloc_old _ _ hk
  have hWs : W.heap.size = w1.heap.size + 1 := by rw [hW]; simp
  have hWn : W.heap[w1.heap.size]? = some (.cells #[str u.key, .int .i64 u.seq, .bool u.mkr, str u.data, .slice ma u.l.length mc] 39 (0, 0)) := by rw [hW]; exact heap_alloc_new _ _
  have hs1 := hb.size
  have f1 : Fo base W v R := by
    have f := h1.later hb
    refine ⟨own_same f.own (fun k hk => hW1 k (f.own.lt k hk).2), by have := f.le; omega, fun k r hr => (f.met k r hr).same (by omega) (fun b hb' => hW1 b ((f.met k r hr).own.lt b hb').2), f.par⟩
  have m1 : Ow w.heap.size W (.slice ma u.l.length mc) u.l := hm.same (by omega) (fun b hb' => hW1 b (hm.own.lt b hb').2)
  obtain ⟨g2, cap2, w', hr, hown, hgrow, hat, hlt⟩ := run_append_lies (P := Tryz.prog) (w := W) 22 ty base 39 i0 _ 5 72 Tryz.underlying22 hi0 hz0 hz1 hz2 rfl (by omega) v R.length (rcells R) f1.own ⟨w1.heap.size, 0, none⟩ 1 1 (rcs ⟨u, [], ma, mc⟩) rfl
    (World.news_of_block (cs := (rcs ⟨u, [], ma, mc⟩).toArray) (t := 39) (fr := (0, 0)) hWn) (by simp [rcs, Value.oneCell']) (by omega) (by rw [hmx]; omega) (by omega) f1.le _ rfl
  refine ⟨_, w', hr, ⟨R ++ [⟨u, [], ma, mc⟩], ?_, by rw [List.map_append, h2]; rfl, ?_⟩, grown_below f1.own f1.le hgrow, by have := hgrow.size; omega⟩
  · refine Fo.join (B := w.heap.size) f1 (fun k r hr' => ?_) (fun j k r r' hjk hj hk => ?_) h1.le h1.low hgrow.size (fun k hk hne => hgrow.block k hk (Ne.symm hne)) (by simpa [rcells] using hown)
    · have hk0 : k = 0 := by have := (List.getElem?_eq_some_iff.1 hr').1; simp at this; omega
      subst hk0
      simp at hr'
      subst hr'
      simpa [Rv.mv] using m1
    · have a1 := (List.getElem?_eq_some_iff.1 hj).1
      have a2 := (List.getElem?_eq_some_iff.1 hk).1
      simp at a1 a2
      omega
  · intro r hr'
    rcases List.mem_append.1 hr' with q | q
    · exact h3 r q
    · simp at q; subst q; rfl
/-- a copy behind a copy: the second was made since -/
theorem run_cps {W : World} {base : Nat} {w : World} {v : Value} {L L2 : List Vs} (ty : TypeId) {ad : Option Addr} {n c : Nat} (hC : Cp base w v L) (hb : Below w.heap.size w W) (hC2 : Cp w.heap.size W (.slice ad n c) L2) (hn : L.length + L2.length ≤ 1954687338260) :
    ∃ v' w', (Builtin.append_ #[22, 22] ty #[v, .slice ad n c]).run Tryz.prog W = .ok v' w' ∧ Cp base w' v' (L ++ L2) ∧ Below base W w' := by
  obtain ⟨R, h1, h2, h3⟩ := hC
  obtain ⟨R2, k1, k2, k3⟩ := hC2
  have hl : R.length = L.length := by rw [← h2, List.length_map]
  have hl2 : R2.length = L2.length := by rw [← k2, List.length_map]
  obtain ⟨i0, hi0, hz0, hz1, hz2⟩ := infoV
  have hmx : maxLen = 9223372036854775807 := rfl
  have f1 := h1.later hb
  rcases k1.own.2 with ⟨e, h0⟩ | ⟨g, cap, cur, e, hg, hc, g1, g2, g3, g4⟩
  · injection e with e1 e2 e3
    subst e1 e2 e3
    have hq : R2 = [] := List.eq_nil_of_length_eq_zero h0
    subst hq
    simp at k2
    subst k2
    exact ⟨v, W, run_append_owned_none (P := Tryz.prog) W base 22 ty 39 i0 5 Tryz.underlying22 hi0 _ R.length (rcells R) f1.own, ⟨R, f1, by simpa using h2, h3⟩, Below.refl _ _⟩
  · injection e with e1 e2 e3
    subst e1 e2 e3
    have hcells : ∀ j u, (rcells R2)[j]? = some u → W.cell? ((⟨g, 0, none⟩ : Addr).add j) = some u := fun j u hj => by
      rw [addr_add, Nat.zero_add]
      have := rcells_length R2
      have hlt := (List.getElem?_eq_some_iff.1 hj).1
      rw [k1.own.cellAt j (by omega)]
      exact hj
    rcases Nat.eq_zero_or_pos R2.length with h0 | h0
    · have hq : R2 = [] := List.eq_nil_of_length_eq_zero h0
      subst hq
      simp at k2
      subst k2
      obtain ⟨v', w', hr, hown, hgrow, _⟩ := run_append_own_wide (P := Tryz.prog) (w := W) base 22 ty 39 i0 _ 5 72 Tryz.underlying22 hi0 hz0 hz1 hz2 rfl (by omega) v R.length (rcells R) f1.own ⟨g, 0, none⟩ 0 c [] rfl (by simp) (by simp) (by rw [hmx]; omega) (by omega) f1.le
      refine ⟨v', w', hr, ⟨R ++ [], ?_, by simpa using h2, by simpa using h3⟩, grown_below f1.own f1.le hgrow⟩
      exact Fo.join (B := w.heap.size) f1 (fun k r hr' => by simp at hr') (fun j k r r' hjk hj hk => by simp at hj) h1.le h1.low hgrow.size (fun k hk hne => hgrow.block k hk (Ne.symm hne)) (by simpa [rcells] using hown)
    · obtain ⟨gg, cap2, w', hr, hown, hgrow, hat, hlt⟩ := run_append_lies (P := Tryz.prog) (w := W) 22 ty base 39 i0 _ 5 72 Tryz.underlying22 hi0 hz0 hz1 hz2 rfl (by omega) v R.length (rcells R) f1.own ⟨g, 0, none⟩ R2.length c (rcells R2) (rcells_length R2) hcells (rcells_one R2) h0 (by rw [hmx]; omega) (by omega) f1.le _ rfl
      refine ⟨_, w', hr, ⟨R ++ R2, ?_, by rw [List.map_append, h2, k2], ?_⟩, grown_below f1.own f1.le hgrow⟩
      · exact Fo.join (B := w.heap.size) f1 k1.met k1.par h1.le h1.low hgrow.size (fun k hk hne => hgrow.block k hk (Ne.symm hne)) hown
      · intro r hr'
        rcases List.mem_append.1 hr' with q | q
        · exact h3 r q
        · exact k3 r q
theorem step_cp {ops : Array Oper} {o : Oper} {a : Act} {K : Act → World → Prop} {Q : Exit → Act → World → Prop} {E : Prop} {W : World} (hgd : o.guard = none) (s x : Operand) (ho : o.op = .call { callee := .builtin .append, args := #[s, x], argTypes := #[22, 22] })
    {base : Nat} {w w1 : World} {v : Value} {L : List Vs} {g : Nat} (u : Vs) {ma : Option Addr} {mn mc : Nat} (hu : mn = u.l.length) (hC : Cp base w v L) (hb : Below w.heap.size w w1) (hm : Ow w.heap.size w1 (.slice ma mn mc) u.l) (hW : W.heap = (w1.alloc (.cells #[str u.key, .int .i64 u.seq, .bool u.mkr, str u.data, .slice ma mn mc] 39)).heap) (hg : g = w1.heap.size) (hn : L.length ≤ 1954687338260)
    (hs : a.eval s = v) (hx : a.eval x = .slice (some ⟨g, 0, none⟩) 1 1)
    (h : ∀ v' w', Cp base w' v' (L ++ [u]) → Below base W w' → K (a.put o.dst v') w') : if Region.wanted o (yielded ops a.tmps) = true then Oper.wp Tryz.prog o a W K Q else E := by
  obtain ⟨v', w', hr, h1, h2, _⟩ := run_cp (W := W) o.type u hu hW hC hb hm hg hn
  exact step_run hgd s x ho hs hx hr (h v' w' h1 h2)
theorem step_cps {ops : Array Oper} {o : Oper} {a : Act} {K : Act → World → Prop} {Q : Exit → Act → World → Prop} {E : Prop} {W : World} (hgd : o.guard = none) (s x : Operand) (ho : o.op = .call { callee := .builtin .append, args := #[s, x], argTypes := #[22, 22] })
    {base : Nat} {w : World} {v : Value} {L L2 : List Vs} {ad : Option Addr} {n c : Nat} (hC : Cp base w v L) (hb : Below w.heap.size w W) (hC2 : Cp w.heap.size W (.slice ad n c) L2) (hn : L.length + L2.length ≤ 1954687338260)
    (hs : a.eval s = v) (hx : a.eval x = .slice ad n c)
    (h : ∀ v' w', Cp base w' v' (L ++ L2) → Below base W w' → K (a.put o.dst v') w') : if Region.wanted o (yielded ops a.tmps) = true then Oper.wp Tryz.prog o a W K Q else E := by
  obtain ⟨v', w', hr, h1, h2⟩ := run_cps (W := W) o.type hC hb hC2 hn
  exact step_run hgd s x ho hs hx hr (h v' w' h1 h2)
theorem Cp.drewN {base : Nat} {w : World} {v : Value} {L : List Vs} (h : Cp base w v L) (n : Nat) : Cp base (w.drewN n) v L := h.later (below_dN (Below.refl _ _) n)
end Go.Proofs.YtgcdnanfnbdjjaaGreat

/- Push. -/
namespace Go.Proofs.YtgcdnanfnbdjjaaGreat
set_option linter.unusedVariables false
set_option linter.unusedSimpArgs false
open Go.RowKit
attribute [local go_sem ↓] Go.wp_at_zero Go.wp_at_succ
attribute [local go_sem ↓] slPe
/-- what lies in memory of a version that is handed on -/
structure Vi (w : World) (v : Vs) (a : Option Addr) (n c : Nat) : Prop where
  n : v.l.length = n
  s : Sl w a c v.l
  z : v.l.length ≤ 4398046510976
theorem Vi.later {w w' : World} {v : Vs} {a : Option Addr} {n c : Nat} (h : Vi w v a n c) (hb : Below w.heap.size w w') : Vi w' v a n c := ⟨h.n, h.s.later hb, h.z⟩
/-- a list that is handed on -/
structure Li (w : World) (L : List Vs) (a : Option Addr) (n c : Nat) : Prop where
  n : L.length = n
  s : Ls w a c L
  l : L.length ≤ 1954687338240
  z : ∀ v ∈ L, v.l.length ≤ 4398046510976
theorem Li.later {w w' : World} {L : List Vs} {a : Option Addr} {n c : Nat} (h : Li w L a n c) (hb : Below w.heap.size w w') : Li w' L a n c := ⟨h.n, h.s.later hb, h.l, h.z⟩
theorem puE_key {L : List Vs} {u v : Vs} (h : lastV L = some u) (hk : ¬ u.key = v.key) : puE L v = 61 := by unfold puE; rw [h]; simp only [hk, not_false_eq_true, ↓reduceIte]
theorem puE_seq {L : List Vs} {u v : Vs} (h : lastV L = some u) (hk : u.key = v.key) (hs : v.seq < 1 ∨ v.seq ≤ u.seq) : puE L v = 74 := by unfold puE; rw [h]; simp only [hk, not_true_eq_false, ↓reduceIte, if_pos hs]
theorem puE_ok {L : List Vs} {u v : Vs} (h : lastV L = some u) (hk : u.key = v.key) (hs : ¬ (v.seq < 1 ∨ v.seq ≤ u.seq)) : puE L v = 0 := by unfold puE; rw [h]; simp only [hk, not_true_eq_false, ↓reduceIte, if_neg hs]
theorem puE_nil {v : Vs} (h : v.seq < 1) : puE [] v = 74 := by unfold puE; rw [lastV_nil]; simp only [if_pos h]
theorem puE_nil0 {v : Vs} (h : ¬ v.seq < 1) : puE [] v = 0 := by unfold puE; rw [lastV_nil]; simp only [if_neg h]
theorem puL_no {L : List Vs} {v : Vs} {c : Int} (h : puE L v = c) (hc : c ≠ 0) : puL L v = [] := by unfold puL; rw [h, if_neg hc]
theorem puL_ok {L : List Vs} {v : Vs} (h : puE L v = 0) : puL L v = L ++ [v] := by unfold puL; rw [if_pos h]
set_option maxRecDepth 100000 in
set_option maxHeartbeats 4000000 in
theorem push_any (L : List Vs) (v : Vs) (w : World) (a : Option Addr) (n cap : Nat) (va : Option Addr) (vn vc : Nat) (hL : Li w L a n cap) (hV : Vi w v va vn vc) :
    Calls Tryz.prog 73 #[.slice a n cap, vv v.key v.seq v.mkr v.data va vn vc] w fun e w' => ∃ r, e = .returned (.tuple #[r, .int .i64 (puE L v)]) ∧ Cp w.heap.size w' r (puL L v) ∧ Below w.heap.size w w' := by
  obtain rfl := hV.n
  have b0 := (Below.refl w.heap.size w).alloc (Nat.le_refl _) (.cells #[str v.key, .int .i64 v.seq, .bool v.mkr, str v.data, .slice va v.l.length vc] 39)
  have z0 := Bv.new w (str v.key) (.int .i64 v.seq) (.bool v.mkr) (str v.data) (.slice va v.l.length vc)
  have hnw := newest_any L _ a n cap hL.n (hL.later b0).s (by have := hL.l; omega)
  have hcs : ∀ w', Below w.heap.size w w' → Calls Tryz.prog 80 #[.slice a n cap] w' fun e w'' => ∃ r, e = .returned r ∧ Cp w'.heap.size w'' r L ∧ Below w'.heap.size w' w'' := fun w' hb => copies_any L w' a n cap hL.n (hL.later hb).s hL.l hL.z
  have hcd : ∀ w', Below w.heap.size w w' → Calls Tryz.prog 78 #[vv v.key v.seq v.mkr v.data va v.l.length vc] w' fun e w'' => ∃ ad c, e = .returned (vv v.key v.seq v.mkr v.data ad v.l.length c) ∧ Ow w'.heap.size w'' (.slice ad v.l.length c) v.l ∧ Below w'.heap.size w' w'' := fun w' hb => copied_any v w' va _ vc rfl (hV.later hb).s hV.z
  have hlen := hL.l
  clear hL hV
  go_enter Tryz.func73, Tryz.ntmps73
  go_wp2_with fail
  with_reducible refine Calls.mono hnw ?_
  rintro e w1 ⟨(⟨rfl, rfl⟩ | ⟨x, hx, hsx, rfl⟩), b1⟩
  · dsimp only
    have z1 := z0.later b1
    have B1 := b0.trans (b1.mono b0.size)
    have z2 := z1.later ((Below.refl _ _).alloc (Nat.le_refl _) (.cells z5c 39))
    have B2 := B1.alloc B1.size (.cells z5c 39)
    have y2 := Bv.new w1 (.string ⟨#[]⟩) (.int .i64 0) (.bool false) (.string ⟨#[]⟩) (.slice none 0 0)
    obtain ⟨p0, p1, p2, p3, p4, _⟩ := z2.cells
    obtain ⟨q0, q1, q2, q3, q4, _⟩ := y2.cells
    clear hnw b0 z0 b1 z1 B1
    by_cases hs : v.seq < 1
    · have H1 := puE_nil hs
      have H2 := Hid.mk (puL_no H1 (by decide))
      have H1' := Hid.mk H1
      have d1 : decide (v.seq ≤ 0) = true := decide_eq_true (by omega)
      clear H1 hs
      go_wp2_with fail
      go_ret2
      exact ⟨_, by rw [H1'.out]; rfl, by rw [H2.out]; exact Cp.nil _ _ B2.size, B2⟩
    · have H1 := puE_nil0 hs
      have H2 := Hid.mk (puL_ok H1)
      have H1' := Hid.mk H1
      have d1 : decide (v.seq ≤ 0) = false := decide_eq_false (by omega)
      clear H1 hs
      go_wp2_with fail
      generalize w1.alloc (.cells z5c 39) = W2 at *
      have HS : Hid (∀ w', Below W2.heap.size W2 w' → Below W2.heap.size W2 w' ∧ w'.cell? ⟨w.heap.size, 0, none⟩ = some (str v.key) ∧ w'.cell? ⟨w.heap.size, 1, none⟩ = some (.int .i64 v.seq) ∧ w'.cell? ⟨w.heap.size, 2, none⟩ = some (.bool v.mkr) ∧ w'.cell? ⟨w.heap.size, 3, none⟩ = some (str v.data) ∧ w'.cell? ⟨w.heap.size, 4, none⟩ = some (.slice va v.l.length vc)) := ⟨fun w' hb => by
        obtain ⟨g0, g1, g2, g3, g4, _⟩ := (z2.later hb).cells
        exact ⟨hb, g0, g1, g2, g3, g4⟩⟩
      clear z2 y2 p0 p1 p2 p3 p4 q0 q1 q2 q3 q4 d1
      go_region_held3 (fun w' => Below W2.heap.size W2 w' ∧ w'.cell? ⟨w.heap.size, 0, none⟩ = some (str v.key) ∧ w'.cell? ⟨w.heap.size, 1, none⟩ = some (.int .i64 v.seq) ∧ w'.cell? ⟨w.heap.size, 2, none⟩ = some (.bool v.mkr) ∧ w'.cell? ⟨w.heap.size, 3, none⟩ = some (str v.data) ∧ w'.cell? ⟨w.heap.size, 4, none⟩ = some (.slice va v.l.length vc)) (first
        | exact HS.out _ (Below.refl _ _).drew
        | exact HS.out _ (below_seq (And.left (by assumption)) b5)
        | exact HS.out _ (below_seq (And.left (by assumption)) b6)
        | exact HS.out _ (Below.alloc (And.left (by assumption)) (Below.size (w := W2) (And.left (by assumption))) _)
        | exact HS.out _ (Below.trans (And.left (by assumption)) b7)) (first
        | (go_at_call 80; with_reducible refine Calls.mono (hcs _ (B2.trans (Below.mono (And.left (by assumption)) B2.size))) ?_; rintro e w5 ⟨r5, rfl, c5, b5⟩)
        | (go_at_call 78; with_reducible refine Calls.mono (hcd _ (B2.trans (Below.mono (And.left (by assumption)) B2.size))) ?_; rintro e w6 ⟨a6, c6, rfl, o6, b6⟩)
        | (refine step_cp rfl _ _ rfl v rfl c5 (w1 := w6) (by first | exact b6 | exact ((Below.refl _ _).drew).trans b6 | exact ((Below.refl _ _).drew.drew).trans b6) o6 rfl rfl (by first | omega | (simp; done)) rfl rfl ?_; intro v7 w7 c7 b7))
      have B7 : Below W2.heap.size W2 w7 := And.left (by assumption)
      go_wp2_with fail
      go_ret2
      exact ⟨v7, by rw [H1'.out]; rfl, by rw [H2.out]; exact Cp.base c7 B2.size, B2.trans (B7.mono B2.size)⟩
  · dsimp only
    have z1 := z0.later b1
    have B1 := b0.trans (b1.mono b0.size)
    have z2 := z1.later ((Below.refl _ _).alloc (Nat.le_refl _) (.cells (c5 x) 39))
    have B2 := B1.alloc B1.size (.cells (c5 x) 39)
    have y2 := Bv.new w1 (str x.v.key) (.int .i64 x.v.seq) (.bool x.v.mkr) (str x.v.data) (.slice x.a x.v.l.length x.c)
    obtain ⟨p0, p1, p2, p3, p4, _⟩ := z2.cells
    obtain ⟨q0, q1, q2, q3, q4, _⟩ := y2.cells
    clear hnw b0 z0 b1 z1 B1 hsx
    by_cases hk : x.v.key = v.key
    · have dk : (x.v.key == v.key) = true := by rw [beq_iff_eq]; exact hk
      by_cases hs : v.seq < 1 ∨ v.seq ≤ x.v.seq
      · have H1 := puE_seq hx hk hs
        have H2 := Hid.mk (puL_no H1 (by decide))
        have H1' := Hid.mk H1
        clear H1 hx hk
        by_cases hn : x.v.seq < 0
        · have dn : decide (x.v.seq < 0) = true := decide_eq_true hn
          have d1 : decide (v.seq ≤ 0) = true := decide_eq_true (by omega)
          clear hs
          go_wp2_with fail
          go_ret2
          exact ⟨_, by rw [H1'.out]; rfl, by rw [H2.out]; exact Cp.nil _ _ B2.size, B2⟩
        · have dn : decide (x.v.seq < 0) = false := decide_eq_false hn
          have d1 : decide (v.seq ≤ x.v.seq) = true := decide_eq_true (by omega)
          clear hs
          go_wp2_with fail
          go_ret2
          exact ⟨_, by rw [H1'.out]; rfl, by rw [H2.out]; exact Cp.nil _ _ B2.size, B2⟩
      · have H1 := puE_ok hx hk hs
        have H2 := Hid.mk (puL_ok H1)
        have H1' := Hid.mk H1
        clear H1 hx hk
        by_cases hn : x.v.seq < 0
        · have dn : decide (x.v.seq < 0) = true := decide_eq_true hn
          have d1 : decide (v.seq ≤ 0) = false := decide_eq_false (by omega)
          clear hs
          go_wp2_with fail
          generalize w1.alloc (.cells #[str x.v.key, .int .i64 x.v.seq, .bool x.v.mkr, str x.v.data, .slice x.a x.v.l.length x.c] 39) = W2 at *
          have HS : Hid (∀ w', Below W2.heap.size W2 w' → Below W2.heap.size W2 w' ∧ w'.cell? ⟨w.heap.size, 0, none⟩ = some (str v.key) ∧ w'.cell? ⟨w.heap.size, 1, none⟩ = some (.int .i64 v.seq) ∧ w'.cell? ⟨w.heap.size, 2, none⟩ = some (.bool v.mkr) ∧ w'.cell? ⟨w.heap.size, 3, none⟩ = some (str v.data) ∧ w'.cell? ⟨w.heap.size, 4, none⟩ = some (.slice va v.l.length vc)) := ⟨fun w' hb => by
            obtain ⟨g0, g1, g2, g3, g4, _⟩ := (z2.later hb).cells
            exact ⟨hb, g0, g1, g2, g3, g4⟩⟩
          clear z2 y2 p0 p1 p2 p3 p4 q0 q1 q2 q3 q4 d1 dk dn hn
          go_region_held3 (fun w' => Below W2.heap.size W2 w' ∧ w'.cell? ⟨w.heap.size, 0, none⟩ = some (str v.key) ∧ w'.cell? ⟨w.heap.size, 1, none⟩ = some (.int .i64 v.seq) ∧ w'.cell? ⟨w.heap.size, 2, none⟩ = some (.bool v.mkr) ∧ w'.cell? ⟨w.heap.size, 3, none⟩ = some (str v.data) ∧ w'.cell? ⟨w.heap.size, 4, none⟩ = some (.slice va v.l.length vc)) (first
            | exact HS.out _ (Below.refl _ _).drew
            | exact HS.out _ (below_seq (And.left (by assumption)) b5)
            | exact HS.out _ (below_seq (And.left (by assumption)) b6)
            | exact HS.out _ (Below.alloc (And.left (by assumption)) (Below.size (w := W2) (And.left (by assumption))) _)
            | exact HS.out _ (Below.trans (And.left (by assumption)) b7)) (first
            | (go_at_call 80; with_reducible refine Calls.mono (hcs _ (B2.trans (Below.mono (And.left (by assumption)) B2.size))) ?_; rintro e w5 ⟨r5, rfl, c5, b5⟩)
            | (go_at_call 78; with_reducible refine Calls.mono (hcd _ (B2.trans (Below.mono (And.left (by assumption)) B2.size))) ?_; rintro e w6 ⟨a6, c6, rfl, o6, b6⟩)
            | (refine step_cp rfl _ _ rfl v rfl c5 (w1 := w6) (by first | exact b6 | exact ((Below.refl _ _).drew).trans b6 | exact ((Below.refl _ _).drew.drew).trans b6) o6 rfl rfl (by first | omega | (simp; done)) rfl rfl ?_; intro v7 w7 c7 b7))
          have B7 : Below W2.heap.size W2 w7 := And.left (by assumption)
          go_wp2_with fail
          go_ret2
          exact ⟨v7, by rw [H1'.out]; rfl, by rw [H2.out]; exact Cp.base c7 B2.size, B2.trans (B7.mono B2.size)⟩
        · have dn : decide (x.v.seq < 0) = false := decide_eq_false hn
          have d1 : decide (v.seq ≤ x.v.seq) = false := decide_eq_false (by omega)
          clear hs
          go_wp2_with fail
          generalize w1.alloc (.cells #[str x.v.key, .int .i64 x.v.seq, .bool x.v.mkr, str x.v.data, .slice x.a x.v.l.length x.c] 39) = W2 at *
          have HS : Hid (∀ w', Below W2.heap.size W2 w' → Below W2.heap.size W2 w' ∧ w'.cell? ⟨w.heap.size, 0, none⟩ = some (str v.key) ∧ w'.cell? ⟨w.heap.size, 1, none⟩ = some (.int .i64 v.seq) ∧ w'.cell? ⟨w.heap.size, 2, none⟩ = some (.bool v.mkr) ∧ w'.cell? ⟨w.heap.size, 3, none⟩ = some (str v.data) ∧ w'.cell? ⟨w.heap.size, 4, none⟩ = some (.slice va v.l.length vc)) := ⟨fun w' hb => by
            obtain ⟨g0, g1, g2, g3, g4, _⟩ := (z2.later hb).cells
            exact ⟨hb, g0, g1, g2, g3, g4⟩⟩
          clear z2 y2 p0 p1 p2 p3 p4 q0 q1 q2 q3 q4 d1 dk dn hn
          go_region_held3 (fun w' => Below W2.heap.size W2 w' ∧ w'.cell? ⟨w.heap.size, 0, none⟩ = some (str v.key) ∧ w'.cell? ⟨w.heap.size, 1, none⟩ = some (.int .i64 v.seq) ∧ w'.cell? ⟨w.heap.size, 2, none⟩ = some (.bool v.mkr) ∧ w'.cell? ⟨w.heap.size, 3, none⟩ = some (str v.data) ∧ w'.cell? ⟨w.heap.size, 4, none⟩ = some (.slice va v.l.length vc)) (first
            | exact HS.out _ (Below.refl _ _).drew
            | exact HS.out _ (below_seq (And.left (by assumption)) b5)
            | exact HS.out _ (below_seq (And.left (by assumption)) b6)
            | exact HS.out _ (Below.alloc (And.left (by assumption)) (Below.size (w := W2) (And.left (by assumption))) _)
            | exact HS.out _ (Below.trans (And.left (by assumption)) b7)) (first
            | (go_at_call 80; with_reducible refine Calls.mono (hcs _ (B2.trans (Below.mono (And.left (by assumption)) B2.size))) ?_; rintro e w5 ⟨r5, rfl, c5, b5⟩)
            | (go_at_call 78; with_reducible refine Calls.mono (hcd _ (B2.trans (Below.mono (And.left (by assumption)) B2.size))) ?_; rintro e w6 ⟨a6, c6, rfl, o6, b6⟩)
            | (refine step_cp rfl _ _ rfl v rfl c5 (w1 := w6) (by first | exact b6 | exact ((Below.refl _ _).drew).trans b6 | exact ((Below.refl _ _).drew.drew).trans b6) o6 rfl rfl (by first | omega | (simp; done)) rfl rfl ?_; intro v7 w7 c7 b7))
          have B7 : Below W2.heap.size W2 w7 := And.left (by assumption)
          go_wp2_with fail
          go_ret2
          exact ⟨v7, by rw [H1'.out]; rfl, by rw [H2.out]; exact Cp.base c7 B2.size, B2.trans (B7.mono B2.size)⟩
    · have H1 := puE_key hx hk
      have H2 := Hid.mk (puL_no H1 (by decide))
      have H1' := Hid.mk H1
      have dk : (x.v.key == v.key) = false := by rw [beq_eq_false_iff_ne]; exact hk
      clear H1 hx hk
      go_wp2_with fail
      go_ret2
      exact ⟨_, by rw [H1'.out]; rfl, by rw [H2.out]; exact Cp.nil _ _ B2.size, B2⟩
end Go.Proofs.YtgcdnanfnbdjjaaGreat

/- Top, Get, and the document's. -/
namespace Go.Proofs.YtgcdnanfnbdjjaaGreat
set_option linter.unusedVariables false
set_option linter.unusedSimpArgs false
open Go.RowKit
attribute [local go_sem ↓] Go.wp_at_zero Go.wp_at_succ
attribute [local go_sem ↓] slPe
/-- a version of one's own is answered, and a number -/
def RV (w w' : World) (e : Ending) (u : Vs) (c : Int) : Prop := ∃ a' c', e = .returned (.tuple #[vv u.key u.seq u.mkr u.data a' u.l.length c', .int .i64 c]) ∧ Ow w.heap.size w' (.slice a' u.l.length c') u.l ∧ Below w.heap.size w w'
theorem results_ct {fn : Func} {p t : Tmp} {ty : TypeId} (h : fn.results = #[.cell p ty, .tmp t]) (tmps : Array Value) (P : Program) (w : World) :
    (results fn tmps).run P w = ((asAddr (tmps.getD p undef)).run P w).andThen fun a w₁ => ((loadVar ty a).run P w₁).andThen fun v w₂ => .ok (.tuple #[v, tmps.getD t undef]) w₂ := by
  simp only [results, h]
  simp [Sem.run_bind, Result.andThen]
theorem toE_nil : toE [] = 72 := rfl
theorem toV_nil : toV [] = vs0 := rfl
theorem toE_mk {L : List Vs} {u : Vs} (h : lastV L = some u) (hm : u.mkr = true) : toE L = 73 := by unfold toE; rw [h]; simp [hm]
theorem toV_mk {L : List Vs} {u : Vs} (h : lastV L = some u) (hm : u.mkr = true) : toV L = vs0 := by unfold toV; rw [h]; simp [hm]
theorem toE_ok {L : List Vs} {u : Vs} (h : lastV L = some u) (hm : u.mkr = false) : toE L = 0 := by unfold toE; rw [h]; simp [hm]
theorem toV_ok {L : List Vs} {u : Vs} (h : lastV L = some u) (hm : u.mkr = false) : toV L = u := by unfold toV; rw [h]; simp [hm]
/-- the end of a call: the box with what is answered, and a number -/
theorem rv_zero {w W : World} {c : Int} (hB : Below w.heap.size w W) : RV w W (.returned (.tuple #[vv [] 0 false [] none 0 0, .int .i64 c])) vs0 c := ⟨none, 0, rfl, Ow.nil _ _ hB.size, hB⟩
set_option maxRecDepth 100000 in
set_option maxHeartbeats 4000000 in
theorem top_any (L : List Vs) (w : World) (a : Option Addr) (n cap : Nat) (hL : Li w L a n cap) :
    Calls Tryz.prog 49 #[.slice a n cap] w fun e w' => RV w w' e (toV L) (toE L) := by
  have b0 := (Below.refl w.heap.size w).alloc (Nat.le_refl _) (.cells z5c 39)
  have z0 := Bv.new w (.string ⟨#[]⟩) (.int .i64 0) (.bool false) (.string ⟨#[]⟩) (.slice none 0 0)
  have hnw := newest_any L _ a n cap hL.n (hL.later b0).s (by have := hL.l; omega)
  have hzz := hL.z
  go_enter Tryz.func49, Tryz.ntmps49
  go_wp2_with fail
  with_reducible refine Calls.mono hnw ?_
  rintro e w1 ⟨(⟨rfl, rfl⟩ | ⟨x, hx, hsx, rfl⟩), b1⟩
  · dsimp only
    have z1 := z0.later b1
    have B1 := b0.trans (b1.mono b0.size)
    have z2 := z1.later ((Below.refl _ _).alloc (Nat.le_refl _) (.cells z5c 39))
    have B2 := B1.alloc B1.size (.cells z5c 39)
    clear hnw b0 z0 b1 z1 B1 hL hzz
    obtain ⟨p0, p1, p2, p3, p4, pf⟩ := z2.cells
    have pf0 := pf 0
    have pf1 := pf 1
    have pf2 := pf 2
    have pf3 := pf 3
    have pf4 := pf 4
    have z9 := z2.s5 (.string ⟨#[]⟩) (.int .i64 0) (.bool false) (.string ⟨#[]⟩) (.slice none 0 0)
    have B9 := Below.s5 B2 (R := w.heap.size) (Nat.le_refl _) (.string ⟨#[]⟩) (.int .i64 0) (.bool false) (.string ⟨#[]⟩) (.slice none 0 0)
    clear pf z2
    go_wp2_with fail
    first | rw [s5_eq] | skip
    obtain ⟨g0, g1, g2, g3, g4, _⟩ := z9.cells
    generalize s5 (w1.alloc (.cells z5c 39)) w.heap.size (.string ⟨#[]⟩) (.int .i64 0) (.bool false) (.string ⟨#[]⟩) (.slice none 0 0) = W9 at *
    refine bodyPost_ret (v := .tuple #[vv [] 0 false [] none 0 0, .int .i64 72]) ?_ rfl (rv_zero B9)
    rw [results_ct rfl]
    go_simp
  · obtain ⟨⟨xk, xs, xm, xd, xl⟩, xa, xc⟩ := x
    dsimp only at hx hsx ⊢
    have z1 := z0.later b1
    have B1 := b0.trans (b1.mono b0.size)
    have bx := (Below.refl w1.heap.size w1).alloc (Nat.le_refl _) (.cells #[str xk, .int .i64 xs, .bool xm, str xd, .slice xa xl.length xc] 39)
    have z2 := z1.later bx
    have B2 := B1.alloc B1.size (.cells #[str xk, .int .i64 xs, .bool xm, str xd, .slice xa xl.length xc] 39)
    have y2 := Bv.new w1 (str xk) (.int .i64 xs) (.bool xm) (str xd) (.slice xa xl.length xc)
    have s2 := (hsx.later b1).later bx
    have hzx := hzz _ (List.mem_of_getLast? hx)
    dsimp only at hzx
    obtain ⟨q0, q1, q2, q3, q4, _⟩ := y2.cells
    clear hnw b0 z0 b1 z1 B1 y2 hL hsx hzz bx
    cases xm with
    | true =>
      have H1 := Hid.mk (toE_mk hx rfl)
      have H2 := Hid.mk (toV_mk hx rfl)
      clear s2 hx
      obtain ⟨p0, p1, p2, p3, p4, pf⟩ := z2.cells
      have pf0 := pf 0
      have pf1 := pf 1
      have pf2 := pf 2
      have pf3 := pf 3
      have pf4 := pf 4
      have z9 := z2.s5 (.string ⟨#[]⟩) (.int .i64 0) (.bool false) (.string ⟨#[]⟩) (.slice none 0 0)
      have B9 := Below.s5 B2 (R := w.heap.size) (Nat.le_refl _) (.string ⟨#[]⟩) (.int .i64 0) (.bool false) (.string ⟨#[]⟩) (.slice none 0 0)
      clear pf z2
      go_wp2_with fail
      first | rw [s5_eq] | skip
      obtain ⟨g0, g1, g2, g3, g4, _⟩ := z9.cells
      generalize s5 (w1.alloc (.cells #[str xk, .int .i64 xs, .bool true, str xd, .slice xa xl.length xc] 39)) w.heap.size (.string ⟨#[]⟩) (.int .i64 0) (.bool false) (.string ⟨#[]⟩) (.slice none 0 0) = W9 at *
      refine bodyPost_ret (v := .tuple #[vv [] 0 false [] none 0 0, .int .i64 73]) ?_ rfl (by rw [H1.out, H2.out]; exact rv_zero B9)
      rw [results_ct rfl]
      go_simp
    | false =>
      have H1 := Hid.mk (toE_ok hx rfl)
      have H2 := Hid.mk (toV_ok hx rfl)
      clear hx
      have hcd := copied_any ⟨xk, xs, false, xd, xl⟩ (w1.alloc (.cells #[str xk, .int .i64 xs, .bool false, str xd, .slice xa xl.length xc] 39)) xa _ xc rfl s2 hzx
      go_wp2_with fail
      with_reducible refine Calls.mono hcd ?_
      rintro e w6 ⟨a6, c6, rfl, o6, b6⟩
      dsimp only
      have z6 := z2.later b6
      have B6 := B2.trans (b6.mono B2.size)
      have hno : (Value.slice a6 xl.length c6).ownBlock ≠ some w.heap.size := fun q => by
        have h1 := (o6.own.lt _ q).1
        have h2 := z2.lt
        omega
      have o7 := (o6.base (b' := w.heap.size) B2.size).s5 hno (str xk) (.int .i64 xs) (.bool false) (str xd) (.slice a6 xl.length c6)
      have z9 := z6.s5 (str xk) (.int .i64 xs) (.bool false) (str xd) (.slice a6 xl.length c6)
      have B9 := Below.s5 B6 (R := w.heap.size) (Nat.le_refl _) (str xk) (.int .i64 xs) (.bool false) (str xd) (.slice a6 xl.length c6)
      obtain ⟨p0, p1, p2, p3, p4, pf⟩ := z6.cells
      have pf0 := pf 0
      have pf1 := pf 1
      have pf2 := pf 2
      have pf3 := pf 3
      have pf4 := pf 4
      clear pf hcd z2 z6 o6 b6 s2
      go_wp2_with fail
      rw [s5_eq]
      obtain ⟨g0, g1, g2, g3, g4, _⟩ := z9.cells
      generalize s5 w6 w.heap.size (str xk) (.int .i64 xs) (.bool false) (str xd) (.slice a6 xl.length c6) = W9 at *
      refine bodyPost_ret (v := .tuple #[vv xk xs false xd a6 xl.length c6, .int .i64 0]) ?_ rfl (by rw [H1.out, H2.out]; exact ⟨a6, c6, rfl, o7, B9⟩)
      rw [results_ct rfl]
      go_simp
theorem lastV_len {L : List Vs} (h : ¬ L.length = 0) : ∃ v, L[L.length - 1]? = some v ∧ lastV L = some v := lastV_at (by omega)
theorem geE_none {L : List Vs} {s : Int} (h : plc L s = none) : geE L s = 72 ∧ geV L s = vs0 := by unfold geE geV; rw [h]; exact ⟨rfl, rfl⟩
theorem geE_some {L : List Vs} {s : Int} {k : Nat} {v : Vs} (h : plc L s = some k) (hv : L[k]? = some v) : geE L s = 0 ∧ geV L s = v := by
  unfold geE geV; rw [h]
  refine ⟨rfl, ?_⟩
  show L.getD k vs0 = v
  rw [List.getD_eq_getElem?_getD, hv]; rfl
set_option maxRecDepth 100000 in
set_option maxHeartbeats 4000000 in
theorem get_any (L : List Vs) (s : Int) (w : World) (a : Option Addr) (n cap : Nat) (hL : Li w L a n cap) :
    Calls Tryz.prog 50 #[.slice a n cap, .int .i64 s] w fun e w' => RV w w' e (geV L s) (geE L s) := by
  obtain rfl := hL.n
  have b0 := (Below.refl w.heap.size w).alloc (Nat.le_refl _) (.cells z5c 39)
  have z0 := Bv.new w (.string ⟨#[]⟩) (.int .i64 0) (.bool false) (.string ⟨#[]⟩) (.slice none 0 0)
  have hpl := place_any L s _ a _ cap rfl (hL.later b0).s.at' (by have := hL.l; omega)
  cases hp : plc L s with
  | none =>
    rw [plcI_none hp] at hpl
    have H1 := Hid.mk (geE_none hp).1
    have H2 := Hid.mk (geE_none hp).2
    clear hL
    go_enter Tryz.func50, Tryz.ntmps50
    go_wp2_with fail
    with_reducible refine Calls.mono hpl ?_
    rintro e w1 ⟨rfl, b1⟩
    dsimp only
    have z2 := z0.later b1
    have B2 := b0.trans (b1.mono b0.size)
    clear hpl b0 z0 b1
    obtain ⟨p0, p1, p2, p3, p4, pf⟩ := z2.cells
    have pf0 := pf 0
    have pf1 := pf 1
    have pf2 := pf 2
    have pf3 := pf 3
    have pf4 := pf 4
    have z9 := z2.s5 (.string ⟨#[]⟩) (.int .i64 0) (.bool false) (.string ⟨#[]⟩) (.slice none 0 0)
    have B9 := Below.s5 B2 (R := w.heap.size) (Nat.le_refl _) (.string ⟨#[]⟩) (.int .i64 0) (.bool false) (.string ⟨#[]⟩) (.slice none 0 0)
    clear pf z2
    go_wp2_with fail
    first | rw [s5_eq] | skip
    obtain ⟨g0, g1, g2, g3, g4, _⟩ := z9.cells
    generalize s5 (w1) w.heap.size (.string ⟨#[]⟩) (.int .i64 0) (.bool false) (.string ⟨#[]⟩) (.slice none 0 0) = W9 at *
    refine bodyPost_ret (v := .tuple #[vv [] 0 false [] none 0 0, .int .i64 72]) ?_ rfl (by rw [H1.out, H2.out]; exact rv_zero B9)
    rw [results_ct rfl]
    go_simp
  | some k =>
    obtain ⟨u, hu1, hus⟩ := (plc_some hp).1
    clear hus
    have H1 := Hid.mk (geE_some hp hu1).1
    have H2 := Hid.mk (geE_some hp hu1).2
    rw [plcI_some hp] at hpl
    have hkl : k < L.length := (List.getElem?_eq_some_iff.1 hu1).1
    have dk : decide ((k : Int) < 0) = false := decide_eq_false (by omega)
    have k2 : (k : Int) < (L.length : Int) := by omega
    have hzx := hL.z _ (List.mem_of_getElem? hu1)
    obtain ⟨xk, xs, xm, xd, xl⟩ := u
    dsimp only at hzx
    clear hp
    go_enter Tryz.func50, Tryz.ntmps50
    go_wp2_with fail
    with_reducible refine Calls.mono hpl ?_
    rintro e w1 ⟨rfl, b1⟩
    dsimp only
    have z2 := z0.later b1
    have B2 := b0.trans (b1.mono b0.size)
    obtain ⟨b, off, xa, xc, rfl, hb1, e0, e1, e2, e3, e4, s2⟩ := ((hL.later B2).s.at').get _ _ hu1
    dsimp only at e0 e1 e2 e3 e4 s2
    clear hpl b0 z0 b1 hL hu1
    have hcd := copied_any ⟨xk, xs, xm, xd, xl⟩ (w1) xa _ xc rfl s2 hzx
    go_wp2_with fail
    with_reducible refine Calls.mono hcd ?_
    rintro e w6 ⟨a6, c6, rfl, o6, b6⟩
    dsimp only
    have z6 := z2.later b6
    have B6 := B2.trans (b6.mono B2.size)
    have hno : (Value.slice a6 xl.length c6).ownBlock ≠ some w.heap.size := fun q => by
      have h1 := (o6.own.lt _ q).1
      have h2 := z2.lt
      omega
    have o7 := (o6.base (b' := w.heap.size) B2.size).s5 hno (str xk) (.int .i64 xs) (.bool xm) (str xd) (.slice a6 xl.length c6)
    have z9 := z6.s5 (str xk) (.int .i64 xs) (.bool xm) (str xd) (.slice a6 xl.length c6)
    have B9 := Below.s5 B6 (R := w.heap.size) (Nat.le_refl _) (str xk) (.int .i64 xs) (.bool xm) (str xd) (.slice a6 xl.length c6)
    obtain ⟨p0, p1, p2, p3, p4, pf⟩ := z6.cells
    have pf0 := pf 0
    have pf1 := pf 1
    have pf2 := pf 2
    have pf3 := pf 3
    have pf4 := pf 4
    clear pf hcd z2 z6 o6 b6 s2
    go_wp2_with fail
    rw [s5_eq]
    obtain ⟨g0, g1, g2, g3, g4, _⟩ := z9.cells
    generalize s5 w6 w.heap.size (str xk) (.int .i64 xs) (.bool xm) (str xd) (.slice a6 xl.length c6) = W9 at *
    refine bodyPost_ret (v := .tuple #[vv xk xs xm xd a6 xl.length c6, .int .i64 0]) ?_ rfl (by rw [H1.out, H2.out]; exact ⟨a6, c6, rfl, o7, B9⟩)
    rw [results_ct rfl]
    go_simp
end Go.Proofs.YtgcdnanfnbdjjaaGreat
