/- One version more, within regions that draw their order. -/
import Derived.Test.YthbdaadhcheggaaGa
import Derived.RegionCalls
import Derived.Laws.Cover3
namespace Go.Proofs.Ythbdaadhcheggaa
set_option linter.unusedVariables false
set_option linter.unusedSimpArgs false
open Go.RowKit
theorem step_run {ops : Array Oper} {o : Oper} {a : Act} {K : Act → World → Prop} {Q : Exit → Act → World → Prop} {E : Prop} {w w' : World} {v x' r : Value} {t1 t2 : TypeId} (hgd : o.guard = none) (s x : Operand) (ho : o.op = .call { callee := .builtin .append, args := #[s, x], argTypes := #[t1, t2] })
    (hs : a.eval s = v) (hx : a.eval x = x') (hr : (Builtin.append_ #[t1, t2] o.type #[v, x']).run Try.prog w = .ok r w')
    (h : K (a.put o.dst r) w') : if Region.wanted o (yielded ops a.tmps) = true then Oper.wp Try.prog o a w K Q else E := by
  have hw : Region.wanted o (yielded ops a.tmps) = true := by simp [Region.wanted, hgd]
  rw [if_pos hw]
  unfold Oper.wp execOp
  simp only [ho, resolve, invoke, builtin, Sem.run_bind, Sem.run_pure, Result.andThen_ok, List.map_toArray, List.map_cons, List.map_nil, hs, hx, hr]
  exact h
/-- rows laid behind a row -/
theorem Fo.join {base : Nat} {w w' : World} {v : Value} {R R2 : List Rv} {B : Nat} (hO : Fo base w v R) (hm : ∀ (k : Nat) (r : Rv), R2[k]? = some r → Ow B w r.mv (r.v.l ++ r.z)) (hp : ∀ (j k : Nat) (r r' : Rv), ¬ j = k → R2[j]? = some r → R2[k]? = some r' → ∀ b, r.mv.ownBlock = some b → r'.mv.ownBlock ≠ some b)
    (hB : base ≤ B) (hlow : ∀ (k : Nat) (r : Rv), R[k]? = some r → ∀ b, r.mv.ownBlock = some b → b < B) (hsz : w.heap.size ≤ w'.heap.size) (hk : ∀ k, k < w.heap.size → v.ownBlock ≠ some k → w'.heap[k]? = w.heap[k]?) {v' : Value} (hown : w'.ownsRow base 41 5 v' (R.length + R2.length) (rcells R ++ rcells R2)) : Fo base w' v' (R ++ R2) := by
  have hmk : ∀ x l, Ow base w x l → Ow base w' x l := fun x l hx => hx.same hsz (fun g hg => hk g (hx.own.lt g hg).2 (fun q => own_apart hx.own hO.own (by decide) hg q))
  have hgt : ∀ (k : Nat) (r : Rv), R2[k]? = some r → ∀ b, r.mv.ownBlock = some b → B ≤ b := fun k r hr b hb => ((hm k r hr).own.lt b hb).1
  refine ⟨?_, Nat.le_trans hO.le hsz, ?_, ?_⟩
  · rw [rcells_append, List.length_append]; exact hown
  · intro k q hq
    by_cases hkl : k < R.length
    · rw [List.getElem?_append_left hkl] at hq
      exact hmk _ _ (hO.met k q hq)
    · rw [List.getElem?_append_right (by omega)] at hq
      exact hmk _ _ ((hm _ q hq).base hB)
  · intro j k q q' hjk hj hk' b hb hb'
    by_cases hjl : j < R.length
    · rw [List.getElem?_append_left hjl] at hj
      by_cases hkl : k < R.length
      · rw [List.getElem?_append_left hkl] at hk'
        exact hO.par j k q q' hjk hj hk' b hb hb'
      · rw [List.getElem?_append_right (by omega)] at hk'
        have h1 := hlow j q hj b hb
        have h2 := hgt _ q' hk' b hb'
        omega
    · rw [List.getElem?_append_right (by omega)] at hj
      by_cases hkl : k < R.length
      · rw [List.getElem?_append_left hkl] at hk'
        have h1 := hlow k q' hk' b hb'
        have h2 := hgt _ q hj b hb
        omega
      · rw [List.getElem?_append_right (by omega)] at hk'
        exact hp _ _ q q' (by omega) hj hk' b hb hb'
theorem Fo.low {base : Nat} {w : World} {v : Value} {R : List Rv} (h : Fo base w v R) : ∀ (k : Nat) (r : Rv), R[k]? = some r → ∀ b, r.mv.ownBlock = some b → b < w.heap.size := fun k r hr b hb => ((h.met k r hr).own.lt b hb).2
/-- a version behind a copy -/
theorem run_cp {W : World} {base : Nat} {w w1 : World} {v : Value} {L : List Vs} {g : Nat} (ty : TypeId) (u : Vs) {ma : Option Addr} {mn mc : Nat} (hu : mn = u.l.length) (hW : W.heap = (w1.alloc (.cells #[str u.key, .int .i64 u.seq, .bool u.mkr, str u.data, .slice ma mn mc] 41)).heap) (hC : Cp base w v L) (hb : Below w.heap.size w w1) (hm : Ow w.heap.size w1 (.slice ma mn mc) u.l) (hg : g = w1.heap.size) (hn : L.length ≤ 1954687338260) :
    ∃ v' w', (Builtin.append_ #[22, 22] ty #[v, .slice (some ⟨g, 0, none⟩) 1 1]).run Try.prog W = .ok v' w' ∧ Cp base w' v' (L ++ [u]) ∧ Below base W w' ∧ w.heap.size ≤ w'.heap.size := by
  obtain ⟨R, h1, h2, h3⟩ := hC
  subst hu hg
  have hl : R.length = L.length := by rw [← h2, List.length_map]
  obtain ⟨i0, hi0, hz0, hz1, hz2⟩ := infoV
  have hmx : maxLen = 9223372036854775807 := rfl
  have hW1 : ∀ k, k < w1.heap.size → W.heap[k]? = w1.heap[k]? := fun k hk => by rw [hW]; exact heap_alloc_old _ _ hk
  have hWs : W.heap.size = w1.heap.size + 1 := by rw [hW]; simp
  have hWn : W.heap[w1.heap.size]? = some (.cells #[str u.key, .int .i64 u.seq, .bool u.mkr, str u.data, .slice ma u.l.length mc] 41 (0, 0)) := by rw [hW]; exact heap_alloc_new _ _
  have hs1 := hb.size
  have f1 : Fo base W v R := by
    have f := h1.later hb
    refine ⟨own_same f.own (fun k hk => hW1 k (f.own.lt k hk).2), by have := f.le; omega, fun k r hr => (f.met k r hr).same (by omega) (fun b hb' => hW1 b ((f.met k r hr).own.lt b hb').2), f.par⟩
  have m1 : Ow w.heap.size W (.slice ma u.l.length mc) u.l := hm.same (by omega) (fun b hb' => hW1 b (hm.own.lt b hb').2)
  obtain ⟨g2, cap2, w', hr, hown, hgrow, hat, hlt⟩ := run_append_lies (P := Try.prog) (w := W) 22 ty base 41 i0 _ 5 72 Try.underlying22 hi0 hz0 hz1 hz2 rfl (by omega) v R.length (rcells R) f1.own ⟨w1.heap.size, 0, none⟩ 1 1 (rcs ⟨u, [], ma, mc⟩) rfl
    (World.news_of_block (cs := (rcs ⟨u, [], ma, mc⟩).toArray) (t := 41) (fr := (0, 0)) hWn) (by simp [rcs, Value.oneCell']) (by omega) (by rw [hmx]; omega) (by omega) f1.le _ rfl
  refine ⟨_, w', hr, ⟨R ++ [⟨u, [], ma, mc⟩], ?_, by rw [List.map_append, h2]; rfl, ?_⟩, grown_below f1.own f1.le hgrow, by have := hgrow.size; omega⟩
  · refine Fo.join (B := w.heap.size) f1 (fun k r hr' => ?_) (fun j k r r' hjk hj hk => ?_) h1.le h1.low hgrow.size (fun k hk hne => hgrow.block k hk (Ne.symm hne)) (by simpa [rcells] using hown)
    · have hk0 : k = 0 := by have := (List.getElem?_eq_some_iff.1 hr').1; simp at this; omega
      subst hk0
      simp at hr'
      subst hr'
      simpa [Rv.mv] using m1
    · have a1 := (List.getElem?_eq_some_iff.1 hj).1
      have a2 := (List.getElem?_eq_some_iff.1 hk).1
      simp at a1 a2
      omega
  · intro r hr'
    rcases List.mem_append.1 hr' with q | q
    · exact h3 r q
    · simp at q; subst q; rfl
/-- a copy behind a copy: the second was made since -/
theorem run_cps {W : World} {base : Nat} {w : World} {v : Value} {L L2 : List Vs} (ty : TypeId) {ad : Option Addr} {n c : Nat} (hC : Cp base w v L) (hb : Below w.heap.size w W) (hC2 : Cp w.heap.size W (.slice ad n c) L2) (hn : L.length + L2.length ≤ 1954687338260) :
    ∃ v' w', (Builtin.append_ #[22, 22] ty #[v, .slice ad n c]).run Try.prog W = .ok v' w' ∧ Cp base w' v' (L ++ L2) ∧ Below base W w' := by
  obtain ⟨R, h1, h2, h3⟩ := hC
  obtain ⟨R2, k1, k2, k3⟩ := hC2
  have hl : R.length = L.length := by rw [← h2, List.length_map]
  have hl2 : R2.length = L2.length := by rw [← k2, List.length_map]
  obtain ⟨i0, hi0, hz0, hz1, hz2⟩ := infoV
  have hmx : maxLen = 9223372036854775807 := rfl
  have f1 := h1.later hb
  rcases k1.own.2 with ⟨e, h0⟩ | ⟨g, cap, cur, e, hg, hc, g1, g2, g3, g4⟩
  · injection e with e1 e2 e3
    subst e1 e2 e3
    have hq : R2 = [] := List.eq_nil_of_length_eq_zero h0
    subst hq
    simp at k2
    subst k2
    exact ⟨v, W, run_append_owned_none (P := Try.prog) W base 22 ty 41 i0 5 Try.underlying22 hi0 _ R.length (rcells R) f1.own, ⟨R, f1, by simpa using h2, h3⟩, Below.refl _ _⟩
  · injection e with e1 e2 e3
    subst e1 e2 e3
    have hcells : ∀ j u, (rcells R2)[j]? = some u → W.cell? ((⟨g, 0, none⟩ : Addr).add j) = some u := fun j u hj => by
      rw [addr_add, Nat.zero_add]
      have := rcells_length R2
      have hlt := (List.getElem?_eq_some_iff.1 hj).1
      rw [k1.own.cellAt j (by omega)]
      exact hj
    rcases Nat.eq_zero_or_pos R2.length with h0 | h0
    · have hq : R2 = [] := List.eq_nil_of_length_eq_zero h0
      subst hq
      simp at k2
      subst k2
      obtain ⟨v', w', hr, hown, hgrow, _⟩ := run_append_own_wide (P := Try.prog) (w := W) base 22 ty 41 i0 _ 5 72 Try.underlying22 hi0 hz0 hz1 hz2 rfl (by omega) v R.length (rcells R) f1.own ⟨g, 0, none⟩ 0 c [] rfl (by simp) (by simp) (by rw [hmx]; omega) (by omega) f1.le
      refine ⟨v', w', hr, ⟨R ++ [], ?_, by simpa using h2, by simpa using h3⟩, grown_below f1.own f1.le hgrow⟩
      exact Fo.join (B := w.heap.size) f1 (fun k r hr' => by simp at hr') (fun j k r r' hjk hj hk => by simp at hj) h1.le h1.low hgrow.size (fun k hk hne => hgrow.block k hk (Ne.symm hne)) (by simpa [rcells] using hown)
    · obtain ⟨gg, cap2, w', hr, hown, hgrow, hat, hlt⟩ := run_append_lies (P := Try.prog) (w := W) 22 ty base 41 i0 _ 5 72 Try.underlying22 hi0 hz0 hz1 hz2 rfl (by omega) v R.length (rcells R) f1.own ⟨g, 0, none⟩ R2.length c (rcells R2) (rcells_length R2) hcells (rcells_one R2) h0 (by rw [hmx]; omega) (by omega) f1.le _ rfl
      refine ⟨_, w', hr, ⟨R ++ R2, ?_, by rw [List.map_append, h2, k2], ?_⟩, grown_below f1.own f1.le hgrow⟩
      · exact Fo.join (B := w.heap.size) f1 k1.met k1.par h1.le h1.low hgrow.size (fun k hk hne => hgrow.block k hk (Ne.symm hne)) hown
      · intro r hr'
        rcases List.mem_append.1 hr' with q | q
        · exact h3 r q
        · exact k3 r q
theorem step_cp {ops : Array Oper} {o : Oper} {a : Act} {K : Act → World → Prop} {Q : Exit → Act → World → Prop} {E : Prop} {W : World} (hgd : o.guard = none) (s x : Operand) (ho : o.op = .call { callee := .builtin .append, args := #[s, x], argTypes := #[22, 22] })
    {base : Nat} {w w1 : World} {v : Value} {L : List Vs} {g : Nat} (u : Vs) {ma : Option Addr} {mn mc : Nat} (hu : mn = u.l.length) (hC : Cp base w v L) (hb : Below w.heap.size w w1) (hm : Ow w.heap.size w1 (.slice ma mn mc) u.l) (hW : W.heap = (w1.alloc (.cells #[str u.key, .int .i64 u.seq, .bool u.mkr, str u.data, .slice ma mn mc] 41)).heap) (hg : g = w1.heap.size) (hn : L.length ≤ 1954687338260)
    (hs : a.eval s = v) (hx : a.eval x = .slice (some ⟨g, 0, none⟩) 1 1)
    (h : ∀ v' w', Cp base w' v' (L ++ [u]) → Below base W w' → K (a.put o.dst v') w') : if Region.wanted o (yielded ops a.tmps) = true then Oper.wp Try.prog o a W K Q else E := by
  obtain ⟨v', w', hr, h1, h2, _⟩ := run_cp (W := W) o.type u hu hW hC hb hm hg hn
  exact step_run hgd s x ho hs hx hr (h v' w' h1 h2)
theorem step_cps {ops : Array Oper} {o : Oper} {a : Act} {K : Act → World → Prop} {Q : Exit → Act → World → Prop} {E : Prop} {W : World} (hgd : o.guard = none) (s x : Operand) (ho : o.op = .call { callee := .builtin .append, args := #[s, x], argTypes := #[22, 22] })
    {base : Nat} {w : World} {v : Value} {L L2 : List Vs} {ad : Option Addr} {n c : Nat} (hC : Cp base w v L) (hb : Below w.heap.size w W) (hC2 : Cp w.heap.size W (.slice ad n c) L2) (hn : L.length + L2.length ≤ 1954687338260)
    (hs : a.eval s = v) (hx : a.eval x = .slice ad n c)
    (h : ∀ v' w', Cp base w' v' (L ++ L2) → Below base W w' → K (a.put o.dst v') w') : if Region.wanted o (yielded ops a.tmps) = true then Oper.wp Try.prog o a W K Q else E := by
  obtain ⟨v', w', hr, h1, h2⟩ := run_cps (W := W) o.type hC hb hC2 hn
  exact step_run hgd s x ho hs hx hr (h v' w' h1 h2)
theorem Cp.drewN {base : Nat} {w : World} {v : Value} {L : List Vs} (h : Cp base w v L) (n : Nat) : Cp base (w.drewN n) v L := h.later (below_dN (Below.refl _ _) n)
end Go.Proofs.Ythbdaadhcheggaa
