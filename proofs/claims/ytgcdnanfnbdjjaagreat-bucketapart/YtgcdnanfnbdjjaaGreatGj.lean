import Derived.Test.YtgcdnanfnbdjjaaGreatRtm
import Derived.Test.YtgcdnanfnbdjjaaGreatLsb
/- What List and Versions tell of a right value: lists alone. -/
namespace Go.Proofs.YtgcdnanfnbdjjaaGreat
set_option linter.unusedVariables false
set_option linter.unusedSimpArgs false
open Go.RowKit
/-- the versions of a key -/
theorem gp_filter {L : List Vs} (hs : SrtV L) (k : List UInt8) : gpL L (fndV L k) k = L.filter (fun v => v.key == k) := by
  have hP := parts L (fndV L k) k
  have fA : ∀ u ∈ L.take (fndV L k), ¬ u.key = k := fun u hu e => by have h := mem_front hu; rw [e] at h; exact lt_irrefl h
  have fG : ∀ u ∈ gpL L (fndV L k) k, u.key = k := fun u hu => mem_group hu
  have fD : ∀ u ∈ L.drop (fndV L k + ken (L.drop (fndV L k)) k), ¬ u.key = k := fun u hu e => by have h := mem_back hs hu; rw [e] at h; exact lt_irrefl h
  generalize L.take (fndV L k) = A at *
  generalize gpL L (fndV L k) k = G at *
  generalize L.drop (fndV L k + ken (L.drop (fndV L k)) k) = D at *
  rw [hP, List.filter_append, List.filter_append]
  have e1 : A.filter (fun v => v.key == k) = [] := List.filter_eq_nil_iff.2 fun u hu => by simpa using fA u hu
  have e2 : G.filter (fun v => v.key == k) = G := List.filter_eq_self.2 fun u hu => by simpa using fG u hu
  have e3 : D.filter (fun v => v.key == k) = [] := List.filter_eq_nil_iff.2 fun u hu => by simpa using fD u hu
  rw [e1, e2, e3]
  simp
/-- the newest of a group, unless it is a marker -/
def nw1 (G : List Vs) : List Rw := match G.getLast? with
  | none => []
  | some u => if u.mkr = true then [] else [rwOf u]
theorem nw1_len (G : List Vs) : (nw1 G).length ≤ 1 := by
  unfold nw1
  split
  · simp
  · split <;> simp
/-- group by group -/
def byK (f : List Vs → List Rw) (R : List Vs) : List Rw := match R with
  | [] => []
  | v :: t => f ((v :: t).take (ken (v :: t) v.key)) ++ byK f ((v :: t).drop (ken (v :: t) v.key))
termination_by R.length
decreasing_by
  have := ken_pos v t
  rw [List.length_drop, List.length_cons]
  omega
theorem byK_nil (f : List Vs → List Rw) : byK f [] = [] := by rw [byK]
theorem byK_cons (f : List Vs → List Rw) (v : Vs) (t : List Vs) : byK f (v :: t) = f ((v :: t).take (ken (v :: t) v.key)) ++ byK f ((v :: t).drop (ken (v :: t) v.key)) := by rw [byK]
theorem stL_room {X : List Rw} {G : List Vs} (h : X.length < 256) : stL 256 X G = (X ++ nw1 G, true) := by
  unfold stL nw1
  rw [if_pos (by omega)]
  cases hG : G.getLast? with
  | none => simp
  | some u => by_cases hm : u.mkr = true <;> simp [hm]
theorem stV_room {X : List Rw} {G : List Vs} (h : X.length + G.length ≤ 256) : stV 256 X G = (X ++ rwsL G, true) := by
  have hl := rwsL_len G
  unfold stV
  rw [List.take_of_length_le (by rw [hl]; omega), decide_eq_true (by omega)]
theorem ev_list : ∀ (n : Nat) (R : List Vs) (X : List Rw), R.length ≤ n → X.length + R.length ≤ 256 → evL (stL 256) X R = X ++ byK nw1 R
  | _, [], X, _, _ => by rw [evL_nil, byK_nil, List.append_nil]
  | 0, v :: t, X, hn, _ => by simp at hn
  | n + 1, v :: t, X, hn, h => by
    have hp := ken_pos v t
    have hk := ken_le (v :: t) v.key
    rw [List.length_cons] at hn h
    rw [evL_at (v := v) rfl, stL_room (by omega), byK_cons]
    have hl := nw1_len ((v :: t).take (ken (v :: t) v.key))
    have hd : ((v :: t).drop (ken (v :: t) v.key)).length = t.length + 1 - ken (v :: t) v.key := by rw [List.length_drop, List.length_cons]
    simp only [↓reduceIte]
    rw [ev_list n _ _ (by rw [hd]; omega) (by rw [List.length_append, hd]; omega), List.append_assoc]
theorem ev_vers : ∀ (n : Nat) (R : List Vs) (X : List Rw), R.length ≤ n → X.length + R.length ≤ 256 → evL (stV 256) X R = X ++ byK rwsL R
  | _, [], X, _, _ => by rw [evL_nil, byK_nil, List.append_nil]
  | 0, v :: t, X, hn, _ => by simp at hn
  | n + 1, v :: t, X, hn, h => by
    have hp := ken_pos v t
    have hk := ken_le (v :: t) v.key
    rw [List.length_cons] at hn h hk
    have hg : ((v :: t).take (ken (v :: t) v.key)).length = ken (v :: t) v.key := by rw [List.length_take, List.length_cons]; omega
    rw [evL_at (v := v) rfl, stV_room (by rw [hg]; omega), byK_cons]
    have hl := rwsL_len ((v :: t).take (ken (v :: t) v.key))
    have hd : ((v :: t).drop (ken (v :: t) v.key)).length = t.length + 1 - ken (v :: t) v.key := by rw [List.length_drop, List.length_cons]
    simp only [↓reduceIte]
    rw [ev_vers n _ _ (by rw [hd]; omega) (by rw [List.length_append, hd, hl, hg]; omega), List.append_assoc]
/-- all rows -/
theorem byK_rows_len : ∀ (n : Nat) (R : List Vs), R.length ≤ n → (byK rwsL R).length = R.length
  | _, [], _ => by rw [byK_nil]; rfl
  | 0, v :: t, hn => by simp at hn
  | n + 1, v :: t, hn => by
    have hp := ken_pos v t
    have hk := ken_le (v :: t) v.key
    rw [List.length_cons] at hn hk
    have hg : ((v :: t).take (ken (v :: t) v.key)).length = ken (v :: t) v.key := by rw [List.length_take, List.length_cons]; omega
    have hd : ((v :: t).drop (ken (v :: t) v.key)).length = t.length + 1 - ken (v :: t) v.key := by rw [List.length_drop, List.length_cons]
    rw [byK_cons, List.length_append, rwsL_len, hg, byK_rows_len n _ (by rw [hd]; omega), hd, List.length_cons]
    omega
end Go.Proofs.YtgcdnanfnbdjjaaGreat

/- The rows of List: each key once, rising, the newest. -/
namespace Go.Proofs.YtgcdnanfnbdjjaaGreat
set_option linter.unusedVariables false
set_option linter.unusedSimpArgs false
open Go.RowKit
theorem fnd_head (v : Vs) (t : List Vs) : fndV (v :: t) v.key = 0 := by unfold fndV; rw [if_neg lt_irrefl]
theorem head_group {v : Vs} {t : List Vs} (hs : SrtV (v :: t)) : (v :: t).take (ken (v :: t) v.key) = (v :: t).filter (fun u => u.key == v.key) := by
  have h := gp_filter hs v.key
  rw [fnd_head] at h
  exact h
theorem rest_gt {v : Vs} {t : List Vs} (hs : SrtV (v :: t)) : ∀ u ∈ (v :: t).drop (ken (v :: t) v.key), lt v.key u.key := fun u hu => by
  refine mem_back hs (k := v.key) ?_
  rw [fnd_head, Nat.zero_add]
  exact hu
theorem group_key {v : Vs} {t : List Vs} : ∀ u ∈ (v :: t).take (ken (v :: t) v.key), u.key = v.key := fun u hu => mem_group (L := v :: t) (i := 0) hu
theorem nw1_some {G : List Vs} {r : Rw} (h : r ∈ nw1 G) : ∃ u, G.getLast? = some u ∧ u.mkr = false ∧ r = rwOf u := by
  unfold nw1 at h
  cases hG : G.getLast? with
  | none => rw [hG] at h; simp at h
  | some u =>
    rw [hG] at h
    by_cases hm : u.mkr = true
    · simp [hm] at h
    · have hm' : u.mkr = false := by simpa using hm
      simp [hm'] at h
      exact ⟨u, rfl, hm', h⟩
/-- a row of List is the newest version of its key, and no marker -/
theorem byK_mem : ∀ (n : Nat) (R : List Vs), R.length ≤ n → SrtV R → ∀ r ∈ byK nw1 R, ∃ u ∈ R, r = rwOf u ∧ u.mkr = false ∧ (R.filter fun w => w.key == u.key).getLast? = some u
  | _, [], _, _, r, hr => by rw [byK_nil] at hr; simp at hr
  | 0, v :: t, hn, _, _, _ => by simp at hn
  | n + 1, v :: t, hn, hs, r, hr => by
    have hp := ken_pos v t
    have hcut := List.take_append_drop (ken (v :: t) v.key) (v :: t)
    rw [byK_cons] at hr
    rcases List.mem_append.1 hr with q | q
    · obtain ⟨u, h1, h2, h3⟩ := nw1_some q
      have hm : u ∈ (v :: t).take (ken (v :: t) v.key) := List.mem_of_getLast? h1
      have hk := group_key u hm
      refine ⟨u, List.mem_of_mem_take hm, h3, h2, ?_⟩
      rw [hk, ← head_group hs]
      exact h1
    · have hd : ((v :: t).drop (ken (v :: t) v.key)).length ≤ n := by rw [List.length_drop]; omega
      obtain ⟨u, h1, h2, h3, h4⟩ := byK_mem n _ hd (hs.sublist (List.drop_sublist _ _)) r q
      refine ⟨u, List.mem_of_mem_drop h1, h2, h3, ?_⟩
      have hgt := rest_gt hs u h1
      have e0 : ((v :: t).take (ken (v :: t) v.key)).filter (fun w => w.key == u.key) = [] := List.filter_eq_nil_iff.2 fun w hw => by
        have hwk := group_key w hw
        simp only [beq_iff_eq, hwk]
        intro e
        rw [e] at hgt
        exact lt_irrefl hgt
      have e1 : (v :: t).filter (fun w => w.key == u.key) = ((v :: t).drop (ken (v :: t) v.key)).filter (fun w => w.key == u.key) := by
        conv => lhs; rw [← hcut]
        rw [List.filter_append, e0, List.nil_append]
      rw [e1]
      exact h4
/-- its keys rise -/
theorem byK_rise : ∀ (n : Nat) (R : List Vs), R.length ≤ n → SrtV R → (byK nw1 R).Pairwise fun a b => lt a.key b.key
  | _, [], _, _ => by rw [byK_nil]; exact List.Pairwise.nil
  | 0, v :: t, hn, _ => by simp at hn
  | n + 1, v :: t, hn, hs => by
    have hp := ken_pos v t
    have hd : ((v :: t).drop (ken (v :: t) v.key)).length ≤ n := by rw [List.length_drop]; omega
    have hsd : SrtV ((v :: t).drop (ken (v :: t) v.key)) := hs.sublist (List.drop_sublist _ _)
    rw [byK_cons, List.pairwise_append]
    refine ⟨?_, byK_rise n _ hd hsd, fun a ha b hb => ?_⟩
    · have h1 := nw1_len ((v :: t).take (ken (v :: t) v.key))
      match h : nw1 ((v :: t).take (ken (v :: t) v.key)) with
      | [] => exact List.Pairwise.nil
      | [x] => exact List.pairwise_singleton _ _
      | x :: y :: z => rw [h] at h1; simp at h1
    · obtain ⟨u, h1, _, rfl⟩ := nw1_some ha
      obtain ⟨w, h2, rfl, _⟩ := byK_mem n _ hd hsd b hb
      show lt u.key w.key
      rw [group_key u (List.mem_of_getLast? h1)]
      exact rest_gt hs w h2
end Go.Proofs.YtgcdnanfnbdjjaaGreat

/- How many keys List tells: the law's own count. -/
namespace Go.Proofs.YtgcdnanfnbdjjaaGreat
set_option linter.unusedVariables false
set_option linter.unusedSimpArgs false
open Go.RowKit
/-- each version with the key ahead of it -/
def prs (p : Option (List UInt8)) : List Vs → List (Option (List UInt8) × Vs)
  | [] => []
  | v :: t => (p, v) :: prs (some v.key) t
theorem prs_len : ∀ (L : List Vs) (p : Option (List UInt8)), (prs p L).length = L.length
  | [], _ => rfl
  | v :: t, p => by simp [prs, prs_len t]
theorem prs_zero {p : Option (List UInt8)} {L : List Vs} {v : Vs} (h : L[0]? = some v) : (prs p L)[0]? = some (p, v) := by
  cases L with
  | nil => simp at h
  | cons u t => simp at h; subst h; rfl
theorem prs_succ : ∀ {L : List Vs} {p : Option (List UInt8)} {j : Nat} {u v : Vs}, L[j]? = some u → L[j + 1]? = some v → (prs p L)[j + 1]? = some (some u.key, v)
  | [], _, _, _, _, h, _ => by simp at h
  | x :: t, p, 0, u, v, h, h' => by
    simp at h
    subst h
    show (prs (some x.key) t)[0]? = _
    exact prs_zero (by simpa using h')
  | x :: t, p, j + 1, u, v, h, h' => by
    show (prs (some x.key) t)[j + 1]? = _
    exact prs_succ (by simpa using h) (by simpa using h')
/-- is it the first of a key that is counted? -/
def cq (P : List UInt8 → Bool) (x : Option (List UInt8) × Vs) : Bool := P x.2.key && !(x.1 == some x.2.key)
def cnt (P : List UInt8 → Bool) (p : Option (List UInt8)) (L : List Vs) : Nat := (prs p L).countP (cq P)
theorem cnt_cons (P : List UInt8 → Bool) (p : Option (List UInt8)) (v : Vs) (t : List Vs) : cnt P p (v :: t) = (if cq P (p, v) = true then 1 else 0) + cnt P (some v.key) t := by
  unfold cnt
  rw [prs, List.countP_cons]
  omega
theorem cnt_none {P : List UInt8 → Bool} : ∀ {L : List Vs} {p : Option (List UInt8)}, (∀ u ∈ L, P u.key = false) → cnt P p L = 0
  | [], _, _ => rfl
  | v :: t, p, h => by
    rw [cnt_cons, cnt_none fun u hu => h u (List.mem_cons_of_mem _ hu)]
    simp [cq, h v List.mem_cons_self]
theorem cnt_append {P : List UInt8 → Bool} : ∀ {A D : List Vs} {p : Option (List UInt8)}, cnt P p (A ++ D) = cnt P p A + cnt P (match A.getLast? with | none => p | some u => some u.key) D
  | [], D, p => by simp [cnt, prs]
  | v :: t, D, p => by
    rw [List.cons_append, cnt_cons, cnt_append (A := t), cnt_cons]
    have e : (match t.getLast? with | none => some v.key | some u => some u.key) = (match (v :: t).getLast? with | none => p | some u => some u.key) := by
      cases ht : t.getLast? with
      | none =>
        rw [List.getLast?_eq_none_iff] at ht
        subst ht
        rfl
      | some u => rw [List.getLast?_cons, ht]; rfl
    rw [e]
    omega
/-- all of one key, which stood ahead -/
theorem cnt_same {P : List UInt8 → Bool} {k : List UInt8} : ∀ {G : List Vs}, (∀ u ∈ G, u.key = k) → cnt P (some k) G = 0
  | [], _ => rfl
  | v :: t, h => by
    have hv := h v List.mem_cons_self
    rw [cnt_cons, hv, cnt_same fun u hu => h u (List.mem_cons_of_mem _ hu)]
    simp [cq, hv]
/-- the count is that of List's rows -/
theorem cnt_byK {L : List Vs} {from' : List UInt8} (P : List UInt8 → Bool) : ∀ (n : Nat) (R : List Vs) (p : Option (List UInt8)), R.length ≤ n → SrtV R → (∀ u ∈ R, p ≠ some u.key) → (∀ u ∈ R, P u.key = decide (nw1 (R.filter fun w => w.key == u.key) ≠ [])) → cnt P p R = (byK nw1 R).length
  | _, [], p, _, _, _, _ => by rw [byK_nil]; rfl
  | 0, v :: t, p, hn, _, _, _ => by simp at hn
  | n + 1, v :: t, p, hn, hs, hp0, hP => by
    have hp := ken_pos v t
    have hcut := List.take_append_drop (ken (v :: t) v.key) (v :: t)
    have hd : ((v :: t).drop (ken (v :: t) v.key)).length ≤ n := by rw [List.length_drop]; omega
    have hsd : SrtV ((v :: t).drop (ken (v :: t) v.key)) := hs.sublist (List.drop_sublist _ _)
    have hG := group_key (v := v) (t := t)
    have hD := rest_gt hs
    have hPv := hP v List.mem_cons_self
    rw [← head_group hs] at hPv
    have hPD : ∀ u ∈ (v :: t).drop (ken (v :: t) v.key), P u.key = decide (nw1 (((v :: t).drop (ken (v :: t) v.key)).filter fun w => w.key == u.key) ≠ []) := fun u hu => by
      rw [hP u (List.mem_of_mem_drop hu)]
      have e0 : ((v :: t).take (ken (v :: t) v.key)).filter (fun w => w.key == u.key) = [] := List.filter_eq_nil_iff.2 fun w hw => by
        have hwk := hG w hw
        simp only [beq_iff_eq, hwk]
        intro e
        have := hD u hu
        rw [e] at this
        exact lt_irrefl this
      have e1 : (v :: t).filter (fun w => w.key == u.key) = ((v :: t).drop (ken (v :: t) v.key)).filter (fun w => w.key == u.key) := by
        conv => lhs; rw [← hcut]
        rw [List.filter_append, e0, List.nil_append]
      rw [e1]
    rw [byK_cons, List.length_append]
    have ih := fun q hq => cnt_byK (L := L) (from' := from') P n ((v :: t).drop (ken (v :: t) v.key)) q hd hsd hq hPD
    conv => lhs; rw [← hcut]
    rw [cnt_append]
    have hne : (v :: t).take (ken (v :: t) v.key) = v :: t.take (ken (v :: t) v.key - 1) := by
      obtain ⟨m, hm⟩ : ∃ m, ken (v :: t) v.key = m + 1 := ⟨ken (v :: t) v.key - 1, by omega⟩
      rw [hm]
      rfl
    have hlen1 := nw1_len ((v :: t).take (ken (v :: t) v.key))
    have c1 : cnt P p ((v :: t).take (ken (v :: t) v.key)) = (nw1 ((v :: t).take (ken (v :: t) v.key))).length := by
      have hz : cnt P p ((v :: t).take (ken (v :: t) v.key)) = if P v.key = true then 1 else 0 := by
        rw [hne, cnt_cons, cnt_same fun u hu => hG u (by rw [hne]; exact List.mem_cons_of_mem _ hu)]
        have : (p == some v.key) = false := by simpa using hp0 v List.mem_cons_self
        simp [cq, this]
      rw [hz, hPv]
      by_cases hq : nw1 ((v :: t).take (ken (v :: t) v.key)) = []
      · simp [hq]
      · have := List.length_pos_iff.2 hq
        simp [hq]
        omega
    rw [c1, ih]
    intro u hu
    have hgt := hD u hu
    cases hl : ((v :: t).take (ken (v :: t) v.key)).getLast? with
    | none => rw [List.getLast?_eq_none_iff, hne] at hl; cases hl
    | some w =>
      simp only
      rw [hG w (List.mem_of_getLast? hl)]
      intro e
      rw [Option.some.inj e] at hgt
      exact lt_irrefl hgt
end Go.Proofs.YtgcdnanfnbdjjaaGreat

/- What BucketLists asks, of lists alone. -/
namespace Go.Proofs.YtgcdnanfnbdjjaaGreat
set_option linter.unusedVariables false
set_option linter.unusedSimpArgs false
open Go.RowKit
theorem nw1_ne {G : List Vs} : nw1 G ≠ [] ↔ toE G = 0 := by
  unfold nw1 toE lastV
  cases hG : G.getLast? with
  | none => simp
  | some u => by_cases hm : u.mkr = true <;> simp [hm]
/-- from a text on: the same versions of each key -/
theorem filter_drop {L : List Vs} (hs : SrtV L) {fr : List UInt8} {u : Vs} (hu : u ∈ L.drop (fndV L fr)) : (L.drop (fndV L fr)).filter (fun w => w.key == u.key) = L.filter (fun w => w.key == u.key) := by
  have hcut := List.take_append_drop (fndV L fr) L
  have hge : ¬ lt u.key fr := by
    obtain ⟨j, hj⟩ := List.mem_iff_getElem?.1 hu
    rw [List.getElem?_drop] at hj
    exact fndV_ge hs (Nat.le_add_right _ _) hj
  have e0 : (L.take (fndV L fr)).filter (fun w => w.key == u.key) = [] := List.filter_eq_nil_iff.2 fun w hw => by
    have h := mem_front hw
    simp only [beq_iff_eq]
    intro e
    rw [e] at h
    exact hge h
  conv => rhs; rw [← hcut]
  rw [List.filter_append, e0, List.nil_append]
theorem drop_ge {L : List Vs} (hs : SrtV L) {fr : List UInt8} {u : Vs} (hu : u ∈ L.drop (fndV L fr)) : ¬ lt u.key fr := by
  obtain ⟨j, hj⟩ := List.mem_iff_getElem?.1 hu
  rw [List.getElem?_drop] at hj
  exact fndV_ge hs (Nat.le_add_right _ _) hj
/-- what is counted -/
noncomputable def cP (L : List Vs) (fr k : List UInt8) : Bool := by classical exact decide (¬ lt k fr) && decide (toE (gpL L (fndV L k) k) = 0)
theorem cnt_list {L : List Vs} (hs : SrtV L) (fr : List UInt8) : cnt (cP L fr) none L = (byK nw1 (L.drop (fndV L fr))).length := by
  have hcut := List.take_append_drop (fndV L fr) L
  have hA : ∀ u ∈ L.take (fndV L fr), cP L fr u.key = false := fun u hu => by
    have h := mem_front hu
    unfold cP
    simp [h]
  have h1 : cnt (cP L fr) none L = cnt (cP L fr) none (L.take (fndV L fr) ++ L.drop (fndV L fr)) := by rw [hcut]
  rw [h1, cnt_append, cnt_none hA, Nat.zero_add]
  refine cnt_byK (L := L) (from' := fr) _ _ _ _ (Nat.le_refl _) (hs.sublist (List.drop_sublist _ _)) (fun u hu => ?_) (fun u hu => ?_)
  · have hge := drop_ge hs hu
    cases hl : (L.take (fndV L fr)).getLast? with
    | none => simp
    | some w =>
      simp only
      intro e
      have h := mem_front (List.mem_of_getLast? hl)
      rw [Option.some.inj e] at h
      exact hge h
  · rw [filter_drop hs hu]
    unfold cP
    rw [gp_filter hs]
    simp only [drop_ge hs hu, not_false_eq_true, decide_true, Bool.true_and, nw1_ne]
/-- a row of List -/
theorem list_row {L : List Vs} (hs : SrtV L) {fr : List UInt8} {r : Rw} (h : r ∈ byK nw1 (L.drop (fndV L fr))) : ∃ u ∈ L, r = rwOf u ∧ u.mkr = false ∧ ¬ lt u.key fr ∧ toE (gpL L (fndV L u.key) u.key) = 0 ∧ toV (gpL L (fndV L u.key) u.key) = u := by
  obtain ⟨u, h1, h2, h3, h4⟩ := byK_mem _ _ (Nat.le_refl _) (hs.sublist (List.drop_sublist _ _)) r h
  rw [filter_drop hs h1] at h4
  exact ⟨u, List.mem_of_mem_drop h1, h2, h3, drop_ge hs h1, by rw [gp_filter hs]; exact toE_ok h4 h3, by rw [gp_filter hs]; exact toV_ok h4 h3⟩
/-- the order of Versions' rows -/
def rlt (a b : Rw) : Prop := lt a.key b.key ∨ a.key = b.key ∧ b.seq < a.seq
theorem byK_vrise : ∀ (n : Nat) (R : List Vs), R.length ≤ n → SrtV R → (byK rwsL R).Pairwise rlt ∧ ∀ r ∈ byK rwsL R, ∃ u ∈ R, r = rwOf u
  | _, [], _, _ => by rw [byK_nil]; exact ⟨List.Pairwise.nil, fun r hr => by simp at hr⟩
  | 0, v :: t, hn, _ => by simp at hn
  | n + 1, v :: t, hn, hs => by
    have hp := ken_pos v t
    have hd : ((v :: t).drop (ken (v :: t) v.key)).length ≤ n := by rw [List.length_drop]; omega
    have hsd : SrtV ((v :: t).drop (ken (v :: t) v.key)) := hs.sublist (List.drop_sublist _ _)
    have hst : SrtV ((v :: t).take (ken (v :: t) v.key)) := hs.sublist (List.take_sublist _ _)
    obtain ⟨i1, i2⟩ := byK_vrise n _ hd hsd
    have hG := group_key (v := v) (t := t)
    have hD := rest_gt hs
    rw [byK_cons]
    have hrow : ∀ r ∈ rwsL ((v :: t).take (ken (v :: t) v.key)), ∃ u ∈ (v :: t).take (ken (v :: t) v.key), r = rwOf u := fun r hr => by
      unfold rwsL at hr
      obtain ⟨u, hu, e⟩ := List.mem_map.1 hr
      exact ⟨u, List.mem_reverse.1 hu, e.symm⟩
    refine ⟨?_, fun r hr => ?_⟩
    · rw [List.pairwise_append]
      refine ⟨?_, i1, fun a ha b hb => ?_⟩
      · unfold rwsL
        rw [List.pairwise_map, List.pairwise_reverse]
        refine List.Pairwise.imp_of_mem ?_ hst
        intro a b ha hb hab
        have ka := hG a ha
        have kb := hG b hb
        rcases hab with q | ⟨_, q⟩
        · rw [ka, kb] at q; exact absurd q lt_irrefl
        · exact .inr ⟨by show b.key = a.key; rw [ka, kb], q⟩
      · obtain ⟨u, hu, rfl⟩ := hrow a ha
        obtain ⟨w, hw, rfl⟩ := i2 b hb
        refine .inl ?_
        show lt u.key w.key
        rw [hG u hu]
        exact hD w hw
    · rcases List.mem_append.1 hr with q | q
      · obtain ⟨u, hu, e⟩ := hrow r q
        exact ⟨u, List.mem_of_mem_take hu, e⟩
      · obtain ⟨u, hu, e⟩ := i2 r q
        exact ⟨u, List.mem_of_mem_drop hu, e⟩
/-- a version is told by its key and number -/
theorem ge_told {next : Int} {L : List Vs} (h : RtB next L) {u : Vs} (hu : u ∈ L) : geE (gpL L (fndV L u.key) u.key) u.seq = 0 ∧ geV (gpL L (fndV L u.key) u.key) u.seq = u := by
  rw [gp_filter h.srt]
  have hm : u ∈ L.filter (fun w => w.key == u.key) := List.mem_filter.2 ⟨hu, by simp⟩
  have hnd : ((L.filter (fun w => w.key == u.key)).map (·.seq)).Nodup := h.nod.sublist ((List.filter_sublist).map _)
  generalize L.filter (fun w => w.key == u.key) = G at *
  obtain ⟨k, hk⟩ := List.mem_iff_getElem?.1 hm
  have hpl : plc G u.seq = some k := plc_at hk rfl fun j w hj hw e => by
    obtain ⟨q1, rfl⟩ := List.getElem?_eq_some_iff.1 hk
    obtain ⟨q2, rfl⟩ := List.getElem?_eq_some_iff.1 hw
    have := List.pairwise_iff_getElem.1 hnd j k (by simpa using q2) (by simpa using q1) hj
    simp at this
    exact this e
  exact geE_some hpl hk
end Go.Proofs.YtgcdnanfnbdjjaaGreat
