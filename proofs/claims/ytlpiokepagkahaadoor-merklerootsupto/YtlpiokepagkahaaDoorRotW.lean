/- MerkleRoots: the walk. -/
import Derived.Test.YtlpiokepagkahaaDoorLen
import Derived.Test.YtlpiokepagkahaaDoorRRt
import Derived.Test.YtlpiokepagkahaaDoorFst
namespace Go.Proofs.YtlpiokepagkahaaDoor
set_option linter.unusedVariables false
set_option linter.unusedSimpArgs false
open Go.RowKit
namespace merkleRoots
attribute [local go_sem ↓] Go.wp_at_zero Go.wp_at_succ
attribute [local go_sem ↓] ld23 st23
attribute [local go_sem] eqH
theorem exec_neq {ev : Operand → Value} {o : Oper} {x y : Operand} {g : Hs} {w : World} (ho : o.op = .binOp .neq 23 x y 23) (hx : ev x = .agg (hv g).toArray) (hy : ev y = .agg (hv g).toArray) : (execOp ev o).run Tryd.prog w = .ok (.value (.bool false)) w := by
  have e := eqb_self g
  unfold execOp
  simp [ho, hx, hy, go_sem, eqH, e]
/-- What the walk keeps. -/
structure RB (w : World) (A Bb Lb Qb g n c : Nat) (xs : List Value) (R gl gr : Hs) (w' : World) : Prop where
  k : KIn w'
  bel : Below w.heap.size w w'
  ra : w'.rangeAt A 0 (hv R)
  rb : w'.rangeAt Bb 0 (hv R)
  rl : w'.rangeAt Lb 0 (hv gl)
  rq : w'.rangeAt Qb 0 (hv gr)
  ow : w'.ownsRow w.heap.size 9 1 (.slice (some ⟨g, 0, none⟩) (n + 1) c) (n + 1) xs
section
variable {w : World} {A Bb Lb Qb g n c : Nat} {xs : List Value} {R gl gr : Hs} {w' : World}
theorem RB.next {w2 w3 : World} (h : RB w A Bb Lb Qb g n c xs R gl gr w2) (bq : Below w2.heap.size w2 w3) : RB w A Bb Lb Qb g n c xs R gl gr w3 :=
  ⟨h.k.seq bq, below_seq h.bel bq, rangeNext h.ra bq, rangeNext h.rb bq, rangeNext h.rl bq, rangeNext h.rq bq, own_next h.ow bq⟩
theorem RB.la (h : RB w A Bb Lb Qb g n c xs R gl gr w') : (ldS 23 (.pointer (some ⟨A, 0, none⟩))).run Tryd.prog w' = .ok (.agg (hv R).toArray) w' := load23 h.ra
theorem RB.lb (h : RB w A Bb Lb Qb g n c xs R gl gr w') : (ldS 23 (.pointer (some ⟨Bb, 0, none⟩))).run Tryd.prog w' = .ok (.agg (hv R).toArray) w' := load23 h.rb
theorem RB.ll (h : RB w A Bb Lb Qb g n c xs R gl gr w') : (ldS 23 (.pointer (some ⟨Lb, 0, none⟩))).run Tryd.prog w' = .ok (.agg (hv gl).toArray) w' := load23 h.rl
theorem RB.lq (h : RB w A Bb Lb Qb g n c xs R gl gr w') : (ldS 23 (.pointer (some ⟨Qb, 0, none⟩))).run Tryd.prog w' = .ok (.agg (hv gr).toArray) w' := load23 h.rq
end
theorem own_tx {w : World} {base g n c : Nat} {t : Nat → ByteArray} {x : Value} (h : w.ownsRow base 9 1 (.slice (some ⟨g, 0, none⟩) (n + 1) c) (n + 1) (strL t n ++ [x])) : TextsAt w g 0 n t ∧ w.cell? ⟨g, n, none⟩ = some x := by
  refine ⟨fun k hk => ?_, ?_⟩
  · rw [Nat.zero_add, h.cellAt k (by omega), List.getElem?_append_left (by rw [strL_length]; exact hk), strL_get t n k hk]
  · rw [h.cellAt n (by omega), List.getElem?_append_right (by rw [strL_length]; omega), strL_length]; simp
/-- The first k texts with a letter more. -/
def tx (t : Nat → ByteArray) (k i : Nat) : ByteArray := if i < k then t i ++ ⟨#[120]⟩ else t i
theorem tx_set (t : Nat → ByteArray) (n k : Nat) (x : Value) (h : k < n) : (strL (tx t k) n ++ [x]).set k (.string (t k ++ ⟨#[120]⟩)) = strL (tx t (k + 1)) n ++ [x] := by
  rw [List.set_append_left _ _ (by rw [strL_length]; exact h)]
  congr 1
  apply List.ext_getElem?
  intro j
  by_cases hj : j < n
  · rw [strL_get _ _ _ hj]
    by_cases e : k = j
    · subst e
      rw [List.getElem?_set_self (by rw [strL_length]; exact hj)]
      unfold tx; rw [if_pos (by omega)]
    · rw [List.getElem?_set_ne e, strL_get _ _ _ hj]
      unfold tx
      by_cases h2 : j < k
      · rw [if_pos h2, if_pos (by omega)]
      · rw [if_neg h2, if_neg (by omega)]
  · rw [List.getElem?_eq_none (by rw [List.length_set, strL_length]; omega), List.getElem?_eq_none (by rw [strL_length]; omega)]
theorem tx_0 (t : Nat → ByteArray) : tx t 0 = t := by funext i; simp [tx]
theorem tx_size (t : Nat → ByteArray) (k i N : Nat) (h : (t i).size ≤ N) : (tx t k i).size ≤ N + 1 := by
  unfold tx; split
  · rw [ByteArray.size_append]; show (t i).size + 1 ≤ _; omega
  · omega
set_option maxHeartbeats 1000000 in
set_option maxRecDepth 8000 in
theorem walk (a : Option Addr) (n cap : Nat) (s : ByteArray) (gl gr : Hs) (t : Nat → ByteArray) (zs : s.size ≤ 1048576) (w : World) (hT : TextsIn w a n t) (hz : ∀ k, k < n → (t k).size ≤ 1048576) (hn : n ≤ 1048576) (hK : KIn w) :
    Calls Tryd.prog 6 #[.slice a n cap, .string s, .agg (hv gl).toArray, .agg (hv gr).toArray] w fun e w' => e = .returned (.bool true) ∧ Below w.heap.size w w' := by
  have zs' : s.size < 1152921504606845000 := by omega
  go_enter Tryd.func6, Tryd.ntmps6
  go_wp2_with fail
  have ba : Below w.heap.size w ((w.alloc (.cells (hv gl).toArray 23)).alloc (.cells (hv gr).toArray 23)) := ((Below.refl _ _).alloc (Nat.le_refl _) _).alloc (by simp) _
  have ql : ((w.alloc (.cells (hv gl).toArray 23)).alloc (.cells (hv gr).toArray 23)).rangeAt w.heap.size 0 (hv gl) := range_of_row (T := 23) (fr := (0, 0)) (heap_alloc2_old w (.cells (hv gl).toArray 23) _)
  have qq : ((w.alloc (.cells (hv gl).toArray 23)).alloc (.cells (hv gr).toArray 23)).rangeAt (w.heap.size + 1) 0 (hv gr) := range_of_row (heap_alloc2_new w _ _)
  refine (lent_any cap (hK.seq ba) (hT.next ba) (by omega)).mono ?_
  rintro e w1 ⟨g, c, rfl, own, b1⟩
  have hgc := own_cap2 own
  have own1 : w1.ownsRow w.heap.size 9 1 (.slice (some ⟨g, 0, none⟩) (n + 1) c) (n + 1) (strL t n ++ [.string markB]) := by
    refine ⟨own.1, ?_⟩
    rcases own.2 with h | ⟨g', c', cur, h1, h2, h3⟩
    · exact .inl h
    · exact .inr ⟨g', c', cur, h1, by have := ba.size; omega, h3⟩
  have ql1 := rangeNext ql b1
  have qq1 := rangeNext qq b1
  have b01 := below_seq ba b1
  have k1 := hK.seq b01
  clear own ql qq ba b1
  obtain ⟨R, hR⟩ : ∃ R, R = rootOf n t := ⟨_, rfl⟩
  have HR : Hid (R = rootOf n t) := hR
  clear hR
  go_wp2_with fail
  have c1 := root_any g 0 n c t k1 (own_tx own1).1 (fun k hk => by have := hz k hk; omega) (by omega)
  rw [← HR.out] at c1
  refine Calls.mono c1 ?_
  rintro e w2 ⟨rfl, b2⟩
  have tn := there_new w2 23
  have hst := store_hv tn R
  go_wp2_with fail
  obtain ⟨W2, hW2, b12, rA⟩ : ∃ W, W = (w2.alloc (.cells zero32 23)).setCells w2.heap.size 0 (hv R) ∧ Below w1.heap.size w1 W ∧ W.rangeAt w2.heap.size 0 (hv R) :=
    ⟨_, rfl, below_seq b2 (below_setCells (Nat.le_refl _) _ _ ((Below.refl _ _).alloc (Nat.le_refl _) _)), range_new tn R⟩
  rw [← hW2]
  clear hW2 hst tn b2 c1
  generalize w2.heap.size = A at *
  have own2 := own_next own1 b12
  have c2 := root_any g 0 n c t (k1.seq b12) (own_tx own2).1 (fun k hk => by have := hz k hk; omega) (by omega)
  rw [← HR.out] at c2
  refine Calls.mono c2 ?_
  rintro e w3 ⟨rfl, b3⟩
  have tn := there_new w3 23
  have hst := store_hv tn R
  go_wp2_with fail
  obtain ⟨W3, hW3, b23, rB⟩ : ∃ W, W = (w3.alloc (.cells zero32 23)).setCells w3.heap.size 0 (hv R) ∧ Below W2.heap.size W2 W ∧ W.rangeAt w3.heap.size 0 (hv R) :=
    ⟨_, rfl, below_seq b3 (below_setCells (Nat.le_refl _) _ _ ((Below.refl _ _).alloc (Nat.le_refl _) _)), range_new tn R⟩
  rw [← hW3]
  clear hW3 hst tn b3 c2
  generalize w3.heap.size = Bb at *
  have b13 := below_seq b12 b23
  have S0 : RB w A Bb w.heap.size (w.heap.size + 1) g n c (strL t n ++ [.string markB]) R gl gr W3 := ⟨k1.seq b13, below_seq b01 b13, rangeNext rA b23, rB, rangeNext ql1 b13, rangeNext qq1 b13, own_next own1 b13⟩
  clear own1 own2 b12 b23 b13 rA rB ql1 qq1 b01 k1
  obtain ⟨Lb, hLb⟩ : ∃ Lb, Lb = w.heap.size := ⟨_, rfl⟩
  obtain ⟨Qb, hQb⟩ : ∃ Qb, Qb = w.heap.size + 1 := ⟨_, rfl⟩
  rw [← hQb, ← hLb] at S0 ⊢
  have HL : Hid (Lb = w.heap.size ∧ Qb = w.heap.size + 1) := ⟨hLb, hQb⟩
  clear hLb hQb
  have rR : ∀ {w' : World}, RB w A Bb Lb Qb g n c (strL t n ++ [.string markB]) R gl gr w' → Calls Tryd.prog 16 #[.slice a n cap] w' fun e w2 => e = .returned (.agg (hv R).toArray) ∧ Below w'.heap.size w' w2 := fun h => by
    rw [HR.out]; exact refRoot_in cap h.k (hT.next h.bel) (fun k hk => by have := hz k hk; omega) (by omega)
  have kp : ∀ {w' : World}, RB w A Bb Lb Qb g n c (strL t n ++ [.string markB]) R gl gr w' → Calls Tryd.prog 17 #[.slice (some ⟨g, 0, none⟩) n c, .slice a n cap] w' fun e w2 => e = .returned (.bool true) ∧ Below w'.heap.size w' w2 := fun h =>
    kept_any cap (own_tx h.ow).1 (hT.next h.bel) (own_tx h.ow).2 hgc.1 (by omega)
  refine wp_region_held_drew (S := fun w' => RB w A Bb Lb Qb g n c (strL t n ++ [.string markB]) R gl gr w') (by kernel_rfl) (S0.next ((Below.refl _ _).drew)) (fun hHeld => ?_)
  clear S0
  refine wpAnyH_take (i := 0) (v := .agg (hv R).toArray) rfl (by kernel_rfl) (by kernel_rfl) (by kernel_rfl) (fun _ _ _ h => h) (Or.inl ⟨by kernel_rfl, fun wz hz => exec_load rfl (p := .pointer (some ⟨A, 0, none⟩)) (by kernel_rfl) (hz.la)⟩) hHeld ?_
  refine wpAnyH_take (i := 1) (v := .slice a n cap) rfl (by kernel_rfl) (by kernel_rfl) (by kernel_rfl) (fun _ _ _ h => h) (Or.inl ⟨by kernel_rfl, fun wz hz => by kernel_rfl⟩) hHeld ?_
  try simp only [Act.put, List.setIfInBounds_toArray, List.set_cons_zero, List.set_cons_succ]
  refine wpAnyH_ready (rs := [2]) (by kernel_rfl) (by simp) ?_
  refine AllReadyH.cons rfl (fun K' hK' => ?_) AllReadyH.nil
  go_simp
  refine Calls.mono (rR hHeld) ?_
  rintro e w102 ⟨rfl, bq⟩
  have T2 := hHeld.next bq
  clear hHeld bq
  refine hK'.out _ _ T2 (fun hHeld => ?_)
  clear hK' K' T2
  refine wpAnyH_take (i := 3) (v := .bool false) rfl (by kernel_rfl) (by kernel_rfl) (by kernel_rfl) (fun _ _ _ h => h) (Or.inl ⟨by kernel_rfl, fun wz hz => exec_neq (g := R) rfl (by kernel_rfl) (by kernel_rfl)⟩) hHeld ?_
  refine wpAnyH_take (i := 4) (v := .bool false) rfl (by kernel_rfl) (by kernel_rfl) (by kernel_rfl) (fun _ _ _ h => h) (Or.inl ⟨by kernel_rfl, fun wz hz => by kernel_rfl⟩) hHeld ?_
  refine wpAnyH_take (i := 5) (v := .agg (hv R).toArray) rfl (by kernel_rfl) (by kernel_rfl) (by kernel_rfl) (fun _ _ _ h => h) (Or.inl ⟨by kernel_rfl, fun wz hz => exec_load rfl (p := .pointer (some ⟨Bb, 0, none⟩)) (by kernel_rfl) (hz.lb)⟩) hHeld ?_
  refine wpAnyH_take (i := 6) (v := .agg (hv R).toArray) rfl (by kernel_rfl) (by kernel_rfl) (by kernel_rfl) (fun _ _ _ h => h) (Or.inl ⟨by kernel_rfl, fun wz hz => exec_load rfl (p := .pointer (some ⟨A, 0, none⟩)) (by kernel_rfl) (hz.la)⟩) hHeld ?_
  refine wpAnyH_take (i := 7) (v := .bool false) rfl (by kernel_rfl) (by kernel_rfl) (by kernel_rfl) (fun _ _ _ h => h) (Or.inl ⟨by kernel_rfl, fun wz hz => exec_neq (g := R) rfl (by kernel_rfl) (by kernel_rfl)⟩) hHeld ?_
  refine wpAnyH_take (i := 8) (v := .bool false) rfl (by kernel_rfl) (by kernel_rfl) (by kernel_rfl) (fun _ _ _ h => h) (Or.inl ⟨by kernel_rfl, fun wz hz => by kernel_rfl⟩) hHeld ?_
  refine wpAnyH_take (i := 9) (v := .bool false) rfl (by kernel_rfl) (by kernel_rfl) (by kernel_rfl) (fun _ _ _ h => h) (Or.inl ⟨by kernel_rfl, fun wz hz => by kernel_rfl⟩) hHeld ?_
  refine wpAnyH_take (i := 10) (v := .slice (some ⟨g, 0, none⟩) n c) rfl (by kernel_rfl) (by kernel_rfl) (by kernel_rfl) (fun _ _ _ h => h) (Or.inl ⟨by kernel_rfl, fun wz hz => by kernel_rfl⟩) hHeld ?_
  refine wpAnyH_take (i := 11) (v := .slice a n cap) rfl (by kernel_rfl) (by kernel_rfl) (by kernel_rfl) (fun _ _ _ h => h) (Or.inl ⟨by kernel_rfl, fun wz hz => by kernel_rfl⟩) hHeld ?_
  try simp only [Act.put, List.setIfInBounds_toArray, List.set_cons_zero, List.set_cons_succ]
  refine wpAnyH_ready (rs := [12]) (by kernel_rfl) (by simp) ?_
  refine AllReadyH.cons rfl (fun K' hK' => ?_) AllReadyH.nil
  go_simp
  refine Calls.mono (kp hHeld) ?_
  rintro e w112 ⟨rfl, bq⟩
  have T12 := hHeld.next bq
  clear hHeld bq
  refine hK'.out _ _ T12 (fun hHeld => ?_)
  clear hK' K' T12
  refine wpAnyH_take (i := 13) (v := .bool false) rfl (by kernel_rfl) (by kernel_rfl) (by kernel_rfl) (fun _ _ _ h => h) (Or.inl ⟨by kernel_rfl, fun wz hz => by kernel_rfl⟩) hHeld ?_
  refine wpAnyH_take (i := 14) (v := .bool false) rfl (by kernel_rfl) (by kernel_rfl) (by kernel_rfl) (fun _ _ _ h => h) (Or.inl ⟨by kernel_rfl, fun wz hz => by kernel_rfl⟩) hHeld ?_
  refine wpAnyH_take (i := 15) (v := .bool false) rfl (by kernel_rfl) (by kernel_rfl) (by kernel_rfl) (fun _ _ _ h => h) (Or.inl ⟨by kernel_rfl, fun wz hz => by kernel_rfl⟩) hHeld ?_
  refine wpAnyH_take (i := 16) (v := .string s) rfl (by kernel_rfl) (by kernel_rfl) (by kernel_rfl) (fun _ _ _ h => h) (Or.inl ⟨by kernel_rfl, fun wz hz => by kernel_rfl⟩) hHeld ?_
  refine wpAnyH_take (i := 18) (v := .string s) rfl (by kernel_rfl) (by kernel_rfl) (by kernel_rfl) (fun _ _ _ h => h) (Or.inl ⟨by kernel_rfl, fun wz hz => by kernel_rfl⟩) hHeld ?_
  try simp only [Act.put, List.setIfInBounds_toArray, List.set_cons_zero, List.set_cons_succ]
  refine wpAnyH_ready (rs := [17]) (by kernel_rfl) (by simp) ?_
  refine AllReadyH.cons rfl (fun K' hK' => ?_) AllReadyH.nil
  go_simp
  refine Calls.mono (leaf_hv s _ hHeld.k zs') ?_
  rintro e w117 ⟨rfl, bq⟩
  have T17 := hHeld.next bq
  clear hHeld bq
  refine hK'.out _ _ T17 (fun hHeld => ?_)
  clear hK' K' T17
  try simp only [Act.put, List.setIfInBounds_toArray, List.set_cons_zero, List.set_cons_succ]
  refine wpAnyH_ready (rs := [19]) (by kernel_rfl) (by simp) ?_
  refine AllReadyH.cons rfl (fun K' hK' => ?_) AllReadyH.nil
  go_simp
  refine Calls.mono (refLeaf_hv s _ (by omega)) ?_
  rintro e w119 ⟨rfl, bq⟩
  have T19 := hHeld.next bq
  clear hHeld bq
  refine hK'.out _ _ T19 (fun hHeld => ?_)
  clear hK' K' T19
  refine wpAnyH_take (i := 20) (v := .bool false) rfl (by kernel_rfl) (by kernel_rfl) (by kernel_rfl) (fun _ _ _ h => h) (Or.inl ⟨by kernel_rfl, fun wz hz => exec_neq (g := leaf s.data.toList) rfl (by kernel_rfl) (by kernel_rfl)⟩) hHeld ?_
  refine wpAnyH_take (i := 21) (v := .bool false) rfl (by kernel_rfl) (by kernel_rfl) (by kernel_rfl) (fun _ _ _ h => h) (Or.inl ⟨by kernel_rfl, fun wz hz => by kernel_rfl⟩) hHeld ?_
  refine wpAnyH_take (i := 22) (v := .bool false) rfl (by kernel_rfl) (by kernel_rfl) (by kernel_rfl) (fun _ _ _ h => h) (Or.inl ⟨by kernel_rfl, fun wz hz => by kernel_rfl⟩) hHeld ?_
  refine wpAnyH_take (i := 23) (v := .agg (hv gl).toArray) rfl (by kernel_rfl) (by kernel_rfl) (by kernel_rfl) (fun _ _ _ h => h) (Or.inl ⟨by kernel_rfl, fun wz hz => exec_load rfl (p := .pointer (some ⟨Lb, 0, none⟩)) (by kernel_rfl) (hz.ll)⟩) hHeld ?_
  refine wpAnyH_take (i := 24) (v := .agg (hv gr).toArray) rfl (by kernel_rfl) (by kernel_rfl) (by kernel_rfl) (fun _ _ _ h => h) (Or.inl ⟨by kernel_rfl, fun wz hz => exec_load rfl (p := .pointer (some ⟨Qb, 0, none⟩)) (by kernel_rfl) (hz.lq)⟩) hHeld ?_
  refine wpAnyH_take (i := 26) (v := .agg (hv gl).toArray) rfl (by kernel_rfl) (by kernel_rfl) (by kernel_rfl) (fun _ _ _ h => h) (Or.inl ⟨by kernel_rfl, fun wz hz => exec_load rfl (p := .pointer (some ⟨Lb, 0, none⟩)) (by kernel_rfl) (hz.ll)⟩) hHeld ?_
  refine wpAnyH_take (i := 27) (v := .agg (hv gr).toArray) rfl (by kernel_rfl) (by kernel_rfl) (by kernel_rfl) (fun _ _ _ h => h) (Or.inl ⟨by kernel_rfl, fun wz hz => exec_load rfl (p := .pointer (some ⟨Qb, 0, none⟩)) (by kernel_rfl) (hz.lq)⟩) hHeld ?_
  try simp only [Act.put, List.setIfInBounds_toArray, List.set_cons_zero, List.set_cons_succ]
  refine wpAnyH_ready (rs := [25]) (by kernel_rfl) (by simp) ?_
  refine AllReadyH.cons rfl (fun K' hK' => ?_) AllReadyH.nil
  go_simp
  refine Calls.mono (node_hv gl gr _ hHeld.k) ?_
  rintro e w125 ⟨rfl, bq⟩
  have T25 := hHeld.next bq
  clear hHeld bq
  refine hK'.out _ _ T25 (fun hHeld => ?_)
  clear hK' K' T25
  try simp only [Act.put, List.setIfInBounds_toArray, List.set_cons_zero, List.set_cons_succ]
  refine wpAnyH_ready (rs := [28]) (by kernel_rfl) (by simp) ?_
  refine AllReadyH.cons rfl (fun K' hK' => ?_) AllReadyH.nil
  go_simp
  refine Calls.mono (refNode_hv gl gr _ hHeld.k) ?_
  rintro e w128 ⟨rfl, bq⟩
  have T28 := hHeld.next bq
  clear hHeld bq
  refine hK'.out _ _ T28 (fun hHeld => ?_)
  clear hK' K' T28
  refine wpAnyH_take (i := 29) (v := .bool false) rfl (by kernel_rfl) (by kernel_rfl) (by kernel_rfl) (fun _ _ _ h => h) (Or.inl ⟨by kernel_rfl, fun wz hz => exec_neq (g := node gl gr) rfl (by kernel_rfl) (by kernel_rfl)⟩) hHeld ?_
  refine wpAnyH_take (i := 30) (v := .bool false) rfl (by kernel_rfl) (by kernel_rfl) (by kernel_rfl) (fun _ _ _ h => h) (Or.inl ⟨by kernel_rfl, fun wz hz => by kernel_rfl⟩) hHeld ?_
  refine wpAnyH_done (by kernel_rfl) ?_ _
  try simp only [Act.put, List.setIfInBounds_toArray, List.set_cons_zero, List.set_cons_succ]
  have kE := hHeld.k
  have bE := hHeld.bel
  have oE := hHeld.ow
  clear hHeld rR kp
  generalize w128 = wE at *
  have hB0 := hK.lt
  have u23 := Tryd.underlying23
  go_wp2_with fail
  go_loopw [12] (fun v wr => ∃ k : Nat, k ≤ n ∧ v = .int .i64 (k : Int) ∧ Below w.heap.size w wr ∧ wr.ownsRow w.heap.size 9 1 (.slice (some ⟨g, 0, none⟩) (n + 1) c) (n + 1) (strL (tx t k) n ++ [.string markB])) (fun v _ => n - (intOf v).toNat)
  case atStart => exact ⟨0, by omega, rfl, bE, by rw [tx_0]; exact oE⟩
  case round =>
    clear kE bE oE
    obtain ⟨k, hk, rfl, bel, own⟩ := hrel
    have hgw := own.lt g rfl
    by_cases hlt : k < n
    · have hd : decide ((k : Int) < (n : Int)) = true := by simp; omega
      have i0 : (0 : Int) ≤ (k : Int) := by omega
      have i1 : (k : Int) < (n : Int) := by omega
      have c1 : wr.cell? ⟨g, k, none⟩ = some (.string (t k)) := by
        have := (own_tx own).1 k hlt
        rw [Nat.zero_add] at this
        rw [this]; unfold tx; rw [if_neg (by omega)]
      have f1 : wr.frozen? ⟨g, k, none⟩ = false := own.frozenAt k
      have hzk := hz k hlt
      have s1 : ¬ 9223372036854775807 < (t k).size + (⟨#[120]⟩ : ByteArray).size := by show ¬ _ < (t k).size + 1; omega
      have s2 : ¬ 9223372036854775807 < (t k).size + 1 := by omega
      go_wp2_with fail
      go_round
      case rel =>
        refine ⟨k + 1, by omega, by go_num, bel.setCell (p := ⟨g, k, none⟩) hgw.1 _, ?_⟩
        rw [← tx_set t n k _ hlt]
        exact (own.stored k _).1
      case measure => simp [intOf]; omega
    · obtain rfl : k = n := by omega
      have hd : decide ((k : Int) < (k : Int)) = false := by simp
      obtain ⟨R2, hR2⟩ : ∃ R2, R2 = rootOf k (tx t k) := ⟨_, rfl⟩
      have HR2 : Hid (R2 = rootOf k (tx t k)) := hR2
      clear hR2
      have kr : KIn wr := hK.below bel hB0
      have hzz : ∀ j, j < k → (tx t k j).size ≤ 1048577 := fun j hj => tx_size t k j _ (hz j hj)
      have c1 := root_any g 0 k c (tx t k) kr (own_tx own).1 (fun j hj => by have := hzz j hj; omega) (by omega)
      rw [← HR2.out] at c1
      go_wp2_with fail
      refine Calls.mono c1 ?_
      rintro e w5 ⟨rfl, b5⟩
      have tn := there_new w5 23
      have hst := store_hv tn R2
      go_wp2_with fail
      obtain ⟨W5, hW5, b55, rC⟩ : ∃ W, W = (w5.alloc (.cells zero32 23)).setCells w5.heap.size 0 (hv R2) ∧ Below wr.heap.size wr W ∧ W.rangeAt w5.heap.size 0 (hv R2) :=
        ⟨_, rfl, below_seq b5 (below_setCells (Nat.le_refl _) _ _ ((Below.refl _ _).alloc (Nat.le_refl _) _)), range_new tn R2⟩
      rw [← hW5]
      clear hW5 hst tn b5 c1
      generalize w5.heap.size = Cb at *
      have S5 : KB w Cb R2 W5 := ⟨kr.seq b55, below_seq bel b55, rC⟩
      have own5 := own_next own b55
      have i23 := infoH R2
      have eR2 := eqb_self R2
      have rr : ∀ {w' : World}, KB w Cb R2 w' → Below W5.heap.size W5 w' → Calls Tryd.prog 16 #[.slice (some ⟨g, 0, none⟩) k c] w' fun e w2 => e = .returned (.agg (hv R2).toArray) ∧ Below w'.heap.size w' w2 := fun h hb => by
        rw [HR2.out]; exact refRoot_in c h.k (fun j hj => ⟨g, 0, rfl, ((own_tx own5).1.next hb) j hj⟩) (fun j hj => by have := hzz j hj; omega) (by omega)
      go_region_held3 (fun w' => (KB w Cb R2 w' ∧ Below W5.heap.size W5 w') ∧ w'.rangeAt Cb 0 (hv R2)) (first | exact ⟨⟨S5.drew, (Below.refl _ _).drew⟩, S5.drew.r⟩ | exact ⟨⟨KB.next (And.left (And.left (by assumption))) bq, below_seq (And.right (And.left (by assumption))) bq⟩, (KB.next (And.left (And.left (by assumption))) bq).r⟩)
        (first | (go_at_call 16; refine (rr (And.left (And.left (by assumption))) (And.right (And.left (by assumption)))).mono ?_; rintro e w' ⟨rfl, bq⟩) | (go_at_call 11; refine (first_any _ (KB.k (And.left (And.left (by assumption))))).mono ?_; rintro e w' ⟨rfl, bq⟩))
      rename_i hH
      go_wp2_with fail
      go_ret
      exact ⟨rfl, hH.1.1.bel⟩
end merkleRoots
end Go.Proofs.YtlpiokepagkahaaDoor
