/- Rows of items of one's own, their pairs' rows too, no two of them one. -/
import Derived.Test.YtbiponnchppndaaGreatDoorMIm
import Derived.Deep.AppendLies
import Derived.Deep.RegionLaw
import Derived.Great.BuildSlice
namespace Go.Proofs.YtbiponnchppndaaGreatDoor
set_option maxRecDepth 100000
set_option linter.unusedVariables false
set_option linter.unusedSimpArgs false
open Go.RowKit
open Go.Proofs.YtbiponnchppndaaGreatDoorH (hv hv_length hv_one hv_eq)
/-- an item, and where its pairs lie -/
abbrev Ri := It × Option Addr × Nat
noncomputable def ri (r : Ri) : List Value := ic r.1 r.2.1 r.2.2
def Ri.mv (r : Ri) : Value := .slice r.2.1 r.1.l.length r.2.2
noncomputable def rics (R : List Ri) : List Value := (R.map ri).flatten
theorem ri_len (r : Ri) : (ri r).length = 37 := ic_length _ _ _
theorem rics_append (R S : List Ri) : rics (R ++ S) = rics R ++ rics S := by simp [rics]
theorem rics_one' (r : Ri) : rics [r] = ri r := by simp [rics]
theorem rics_len : ∀ R : List Ri, (rics R).length = R.length * 37
  | [] => rfl
  | r :: R => by
    have h := rics_len R
    have e : rics (r :: R) = ri r ++ rics R := by simp [rics]
    rw [e, List.length_append, ri_len, h, List.length_cons]
    omega
theorem rics_get : ∀ (R : List Ri) (k : Nat) (r : Ri), R[k]? = some r → ∀ j, j < 37 → (rics R)[k * 37 + j]? = (ri r)[j]?
  | [], k, r, h, j, hj => by simp at h
  | q :: R, 0, r, h, j, hj => by
    simp at h
    subst h
    have e : rics (q :: R) = ri q ++ rics R := by simp [rics]
    rw [e, Nat.zero_mul, Nat.zero_add, List.getElem?_append_left (by rw [ri_len]; exact hj)]
  | q :: R, k + 1, r, h, j, hj => by
    have ih := rics_get R k r (by simpa using h) j hj
    have e : rics (q :: R) = ri q ++ rics R := by simp [rics]
    rw [e, List.getElem?_append_right (by rw [ri_len]; omega), ri_len, show (k + 1) * 37 + j - 37 = k * 37 + j by omega]
    exact ih
theorem infoIf : (Tryz.prog.info? 53).map (fun i => (i.zero, i.size, i.bytes)) = some (some (.agg zI), 37, 96) := by kernel_rfl
structure Fi (base : Nat) (w : World) (v : Value) (R : List Ri) : Prop where
  own : w.ownsRow base 53 37 v R.length (rics R)
  le : base ≤ w.heap.size
  met : ∀ (k : Nat) (r : Ri), R[k]? = some r → Ow base w r.mv r.1.l
  par : ∀ (j k : Nat) (r r' : Ri), ¬ j = k → R[j]? = some r → R[k]? = some r' → ∀ b, r.mv.ownBlock = some b → r'.mv.ownBlock ≠ some b
theorem own_type {base n : Nat} {w : World} {v : Value} {xs : List Value} {t : TypeId} {s : Nat} (h : w.ownsRow base t s v n xs) {g : Nat} (hg : v.ownBlock = some g) : ∃ cs, w.heap[g]? = some (.cells cs t (0, 0)) := by
  rcases h.2 with ⟨e, h0⟩ | ⟨g', cap, cur, e, h2, h3, _⟩
  · subst e; cases hg
  · subst e
    have : g' = g := by simpa [Value.ownBlock] using hg
    subst this
    exact ⟨_, h3⟩
theorem own_apart {base base' n m s s' : Nat} {w : World} {v v' : Value} {xs ys : List Value} {t t' : TypeId} (h : w.ownsRow base t s v n xs) (h' : w.ownsRow base' t' s' v' m ys) (ht : t ≠ t') {g : Nat} (hg : v.ownBlock = some g) : v'.ownBlock ≠ some g := fun q => by
  obtain ⟨c1, e1⟩ := own_type h hg
  obtain ⟨c2, e2⟩ := own_type h' q
  rw [e1] at e2
  injection e2 with e2
  injection e2 with _ e2
  exact ht e2
theorem own_keep {base n s : Nat} {w w' : World} {v : Value} {xs : List Value} {t : TypeId} (h : w.ownsRow base t s v n xs) (hb : ∀ g, v.ownBlock = some g → w'.heap[g]? = w.heap[g]?) : w'.ownsRow base t s v n xs := by
  refine ⟨h.1, ?_⟩
  rcases h.2 with e | ⟨g, cap, cur, e, h2, h3, h4⟩
  · exact .inl e
  · exact .inr ⟨g, cap, cur, e, h2, by rw [hb g (by rw [e]; rfl)]; exact h3, h4⟩
theorem Ow.stay {base : Nat} {w w' : World} {v : Value} {l : List En} (h : Ow base w v l) (hs : w.heap.size ≤ w'.heap.size) (hb : ∀ g, v.ownBlock = some g → w'.heap[g]? = w.heap[g]?) : Ow base w' v l := ⟨own_keep h.own hb, Nat.le_trans h.le hs⟩
theorem Fi.nil (w : World) (base : Nat) (h : base ≤ w.heap.size) : Fi base w (.slice none 0 0) [] := ⟨World.ownsRow_nil _ _ _ _, h, fun k r h => by simp at h, fun j k r r' _ h => by simp at h⟩
theorem Fi.later {base : Nat} {w w' : World} {v : Value} {R : List Ri} (h : Fi base w v R) (hb : Below w.heap.size w w') : Fi base w' v R := ⟨own_later h.own hb, Nat.le_trans h.le hb.size, fun k r hk => (h.met k r hk).later hb, h.par⟩
theorem Fi.stay {base : Nat} {w w' : World} {v : Value} {R : List Ri} (h : Fi base w v R) (hs : w.heap.size ≤ w'.heap.size) (hb : ∀ g, (v.ownBlock = some g ∨ ∃ (k : Nat) (r : Ri), R[k]? = some r ∧ r.mv.ownBlock = some g) → w'.heap[g]? = w.heap[g]?) : Fi base w' v R :=
  ⟨own_keep h.own (fun g hg => hb g (.inl hg)), Nat.le_trans h.le hs, fun k r hk => (h.met k r hk).stay hs (fun g hg => hb g (.inr ⟨k, r, hk, hg⟩)), h.par⟩
theorem Fi.low {base : Nat} {w : World} {v : Value} {R : List Ri} (h : Fi base w v R) {g : Nat} (hg : v.ownBlock = some g ∨ ∃ (k : Nat) (r : Ri), R[k]? = some r ∧ r.mv.ownBlock = some g) : base ≤ g ∧ g < w.heap.size := by
  rcases hg with q | ⟨k, r, hk, q⟩
  · exact h.own.lt g q
  · exact (h.met k r hk).own.lt g q
theorem Fi.oth {base : Nat} {w : World} {v : Value} {R : List Ri} (h : Fi base w v R) {g j : Nat} (hg : g < base) (c : Value) : Fi base (w.setCell ⟨g, j, none⟩ c) v R := h.stay (by simp) (fun k hk => hso _ _ (by have := h.low hk; omega))
theorem Fi.base {b b' : Nat} {w : World} {v : Value} {R : List Ri} (h : Fi b w v R) (hb : b' ≤ b) : Fi b' w v R := by
  refine ⟨⟨h.own.1, ?_⟩, Nat.le_trans hb h.le, fun k r hk => (h.met k r hk).base hb, h.par⟩
  rcases h.own.2 with e | ⟨g, cap, cur, e1, e2, e3⟩
  · exact Or.inl e
  · exact Or.inr ⟨g, cap, cur, e1, Nat.le_trans hb e2, e3⟩
theorem Fi.sl {base : Nat} {w : World} {v : Value} {R : List Ri} (h : Fi base w v R) : ∃ a cap, v = .slice a R.length cap := by
  rcases h.own.2 with ⟨e, h0⟩ | ⟨g, cap, cur, e, _⟩
  · exact ⟨none, 0, by rw [e, h0]⟩
  · exact ⟨_, _, e⟩
theorem Ow.asSl2 {base : Nat} {w : World} {a : Option Addr} {n c : Nat} {l : List En} (h : Ow base w (.slice a n c) l) : Sl w a c l := by
  obtain ⟨a', c', e, s⟩ := h.sl
  injection e with e1 e2 e3
  subst e1 e3
  exact s
theorem Fi.it {base : Nat} {w : World} {a : Option Addr} {n cap : Nat} {R : List Ri} (h : Fi base w (.slice a n cap) R) : IIt w a (R.map (·.1)) := by
  refine ⟨fun k x hk => ?_⟩
  rw [List.getElem?_map] at hk
  cases hq : R[k]? with
  | none => rw [hq] at hk; cases hk
  | some r =>
    rw [hq] at hk
    simp at hk
    subst hk
    have hkl := (List.getElem?_eq_some_iff.1 hq).1
    rcases h.own.2 with ⟨e, h0⟩ | ⟨g, cap', cur, e, hbg, hg, _⟩
    · omega
    · injection e with e1 e2 e3
      subst e1 e2
      refine ⟨g, 0, r.2.1, r.2.2, rfl, lt_of_block hg, fun j v hj => ?_, (h.met k r hq).asSl2⟩
      have hj2 : j < 37 := by have := (List.getElem?_eq_some_iff.1 hj).1; rw [ic_length] at this; exact this
      have hl := rics_len R
      rw [Nat.zero_add, h.own.cellAt _ (by omega), rics_get R k r hq j hj2]
      exact hj
/-- one item more -/
theorem run_ri {base B : Nat} {w1 : World} {v : Value} {R : List Ri} (ty : TypeId) (r : Ri) (hF1 : Fi base w1 v R) (hlow : ∀ (i : Nat) (p : Ri), R[i]? = some p → ∀ b, p.mv.ownBlock = some b → b < B) (hB : base ≤ B) (ho : Ow B w1 r.mv r.1.l) (hn : R.length ≤ 1000000000000) :
    ∃ g' c' w', (Builtin.append_ #[26, 26] ty #[v, .slice (some ⟨w1.heap.size, 0, none⟩) 1 1]).run Tryz.prog (w1.alloc (.cells (ri r).toArray 53)) = .ok (.slice (some ⟨g', 0, none⟩) (R.length + 1) c') w' ∧ Fi base w' (.slice (some ⟨g', 0, none⟩) (R.length + 1) c') (R ++ [r]) ∧ Below base w1 w' ∧ (∀ x, x < w1.heap.size → v.ownBlock ≠ some x → w'.heap[x]? = w1.heap[x]?) := by
  obtain ⟨i0, hi, hz0, hz1, hz2⟩ := info_parts infoIf
  have hmx : maxLen = 9223372036854775807 := rfl
  have o1 : (w1.alloc (.cells (ri r).toArray 53)).ownsRow base 53 37 v R.length (rics R) := hF1.own.alloc _
  have hle := hF1.le
  obtain ⟨g2, cap2, w', hr, hown, hgrow, hat, hlt⟩ := run_append_lies (P := Tryz.prog) (w := w1.alloc (.cells (ri r).toArray 53)) 26 ty base 53 i0 _ 37 96 Tryz.underlying26 hi hz0 hz1 hz2 rfl (by omega) v R.length (rics R) o1 ⟨w1.heap.size, 0, none⟩ 1 1 (ri r) (by rw [ri_len])
    (World.news_of_block (cs := (ri r).toArray) (t := 53) (fr := (0, 0)) (heap_alloc_new w1 _)) (ic_one _ _ _) (by omega) (by rw [hmx]; omega) (by omega) (by simp; omega) _ rfl
  have hk : ∀ x, x < w1.heap.size → v.ownBlock ≠ some x → w'.heap[x]? = w1.heap[x]? := fun x hx hne => by rw [hgrow.block x (by simp; omega) (Ne.symm hne)]; exact heap_alloc_old _ _ _ hx
  have hsz : w1.heap.size ≤ w'.heap.size := by have := hgrow.size; simp at this; omega
  have hmk : ∀ b x l, Ow b w1 x l → Ow b w' x l := fun b x l hx => hx.stay hsz (fun g hg => hk g (hx.own.lt g hg).2 (fun q => own_apart hx.own hF1.own (by decide) hg q))
  have hup : ∀ b, r.mv.ownBlock = some b → B ≤ b := fun b hb => (ho.own.lt b hb).1
  refine ⟨g2, cap2, w', hr, ⟨?_, by omega, ?_, ?_⟩, ?_, hk⟩
  · rw [rics_append, List.length_append, rics_one']
    exact hown
  · intro k q hq
    by_cases hkl : k < R.length
    · rw [List.getElem?_append_left hkl] at hq
      exact hmk _ _ _ (hF1.met k q hq)
    · have hkl' : k = R.length := by
        have := (List.getElem?_eq_some_iff.1 hq).1
        simp at this; omega
      subst hkl'
      simp at hq
      subst hq
      exact (hmk _ _ _ ho).base hB
  · intro j k q q' hjk hj hk' b hb'
    by_cases hjl : j < R.length
    · rw [List.getElem?_append_left hjl] at hj
      by_cases hkl : k < R.length
      · rw [List.getElem?_append_left hkl] at hk'
        exact hF1.par j k q q' hjk hj hk' b hb'
      · have hkl' : k = R.length := by
          have := (List.getElem?_eq_some_iff.1 hk').1
          simp at this; omega
        subst hkl'
        simp at hk'
        subst hk'
        intro q2
        have := hlow j q hj b hb'
        have := hup b q2
        omega
    · have hjl' : j = R.length := by
        have := (List.getElem?_eq_some_iff.1 hj).1
        simp at this; omega
      subst hjl'
      simp at hj
      subst hj
      have hkl : k < R.length := by
        have := (List.getElem?_eq_some_iff.1 hk').1
        simp at this; omega
      rw [List.getElem?_append_left hkl] at hk'
      intro q2
      have := hlow k q' hk' b q2
      have := hup b hb'
      omega
  · exact ((Below.refl _ _).alloc hle _).trans (grown_below o1 (by simp; omega) hgrow)
theorem fold_lay : ∀ (vs : List Value) (o : Nat) (cs : Array Value), (vs.zipIdx o).foldl (fun (cs : Array Value) (x : Value × Nat) => cs.setIfInBounds (0 + x.2) x.1) cs = Go.Proofs.YtbiponnchppndaaGreatDoorH.lay cs o vs
  | [], _, _ => rfl
  | v :: r, o, cs => by rw [List.zipIdx_cons, List.foldl_cons, fold_lay r (o + 1)]; simp [Go.Proofs.YtbiponnchppndaaGreatDoorH.lay]
theorem lay_all (vs : List Value) (cs : Array Value) (h : cs.size = vs.length) : Go.Proofs.YtbiponnchppndaaGreatDoorH.lay cs 0 vs = vs.toArray := by
  apply Array.ext_getElem?
  intro i
  by_cases hi : i < cs.size
  · rw [Go.Proofs.YtbiponnchppndaaGreatDoorH.lay_get vs 0 cs i hi, if_pos (Nat.zero_le _), dif_pos (by omega), List.getElem?_toArray, List.getElem?_eq_getElem (by omega)]
    rfl
  · rw [Array.getElem?_eq_none (by rw [Go.Proofs.YtbiponnchppndaaGreatDoorH.lay_size]; omega), Array.getElem?_eq_none (xs := vs.toArray) (by rw [List.size_toArray]; omega)]
/-- a slice made of one item -/
theorem run_box37 (w : World) (x : It) (a : Option Addr) (c : Nat) : (Instr.buildSlice 26 1 #[(0, .agg (ic x a c).toArray)]).run Tryz.prog w = .ok (.slice (some ⟨w.heap.size, 0, none⟩) 1 1) (w.alloc (.cells (ic x a c).toArray 53)) := by
  obtain ⟨i, e1, e2, e3, e4⟩ := info_parts infoIf
  refine run_buildSlice w 26 53 1 _ _ i _ Tryz.underlying26 e1 e2 (by rw [e3]; decide) (by rw [e3]; decide) ?_
  have hc : (Value.cells (.agg (ic x a c).toArray)) = (ic x a c).toArray := rfl
  have hs : (Value.cells (.agg (ic x a c).toArray)).size = 37 := by rw [hc, List.size_toArray, ic_length]
  show Instr.fill _ _ [(0, .agg (ic x a c).toArray)] = _
  unfold Instr.fill
  simp only [Nat.zero_mul, hs, e3]
  rw [if_neg (by simp)]
  unfold Instr.fill
  rw [hc]
  congr 1
  rw [← Array.foldl_toList, Array.toList_zipIdx]
  rw [fold_lay, lay_all _ _ (by simp [ic_length])]
noncomputable def bsI (l : Nat) (v : Array (Nat × Value)) : Sem Value := Instr.buildSlice 26 l v
theorem bsIe (l : Nat) (v : Array (Nat × Value)) : Instr.buildSlice 26 l v = bsI l v := rfl
theorem run_bsI (x : It) (a : Option Addr) (c : Nat) (w : World) : (bsI 1 #[(0, .agg (ic x a c).toArray)]).run Tryz.prog w = .ok (.slice (some ⟨w.heap.size, 0, none⟩) 1 1) (w.alloc (.cells (ic x a c).toArray 53)) := run_box37 w x a c
theorem step_run {ops : Array Oper} {o : Oper} {a : Act} {K : Act → World → Prop} {Q : Exit → Act → World → Prop} {E : Prop} {w w' : World} {v x' r : Value} {t1 t2 : TypeId} (hgd : o.guard = none) (s x : Operand) (ho : o.op = .call { callee := .builtin .append, args := #[s, x], argTypes := #[t1, t2] })
    (hs : a.eval s = v) (hx : a.eval x = x') (hr : (Builtin.append_ #[t1, t2] o.type #[v, x']).run Tryz.prog w = .ok r w')
    (h : K (a.put o.dst r) w') : if Region.wanted o (yielded ops a.tmps) = true then Oper.wp Tryz.prog o a w K Q else E := by
  have hw : Region.wanted o (yielded ops a.tmps) = true := by simp [Region.wanted, hgd]
  rw [if_pos hw]
  unfold Oper.wp execOp
  simp only [ho, resolve, invoke, builtin, Sem.run_bind, Sem.run_pure, Result.andThen_ok, List.map_toArray, List.map_cons, List.map_nil, hs, hx, hr]
  exact h
end Go.Proofs.YtbiponnchppndaaGreatDoor
