import Derived.Test.YtgcdnanfnbdjjaaGreatGj
import Derived.Test.YtgcdnanfnbdjjaaGreatBq
import Derived.Deep.QuietTactic
import Derived.Test.YtgcdnanfnbdjjaaGreatGs
import Derived.Test.YtgcdnanfnbdjjaaGreatMdb
/- What BucketNewest asks, of lists alone. -/
namespace Go.Proofs.YtgcdnanfnbdjjaaGreat
set_option linter.unusedVariables false
set_option linter.unusedSimpArgs false
open Go.RowKit
/-- a value with a version more -/
noncomputable def putX (L : List Vs) (v : Vs) : List Vs := L.take (fndV L v.key) ++ puL (gpL L (fndV L v.key) v.key) v ++ L.drop (fndV L v.key + ken (L.drop (fndV L v.key)) v.key)
/-- a value without one -/
def remX (L : List Vs) (k : List UInt8) (s : Int) : List Vs := L.take (fndV L k) ++ rmL (gpL L (fndV L k) k) s ++ L.drop (fndV L k + ken (L.drop (fndV L k)) k)
theorem filter_ne {A : List Vs} {k : List UInt8} (h : ∀ u ∈ A, ¬ u.key = k) : A.filter (fun u => u.key == k) = [] := List.filter_eq_nil_iff.2 fun u hu => by simpa using h u hu
theorem filter_eq {A : List Vs} {k : List UInt8} (h : ∀ u ∈ A, u.key = k) : A.filter (fun u => u.key == k) = A := List.filter_eq_self.2 fun u hu => by simpa using h u hu
theorem put_filter {L : List Vs} (hs : SrtV L) {v : Vs} (hp : puE (gpL L (fndV L v.key) v.key) v = 0) (k : List UInt8) : (putX L v).filter (fun u => u.key == k) = L.filter (fun u => u.key == k) ++ (if v.key = k then [v] else []) := by
  unfold putX
  have hpu : puL (gpL L (fndV L v.key) v.key) v = gpL L (fndV L v.key) v.key ++ [v] := by unfold puL; rw [if_pos hp]
  rw [hpu]
  have hP := parts L (fndV L v.key) v.key
  have fD := fun u (hu : u ∈ L.drop (fndV L v.key + ken (L.drop (fndV L v.key)) v.key)) => mem_back hs hu
  generalize L.take (fndV L v.key) = A at *
  generalize gpL L (fndV L v.key) v.key = G at *
  generalize L.drop (fndV L v.key + ken (L.drop (fndV L v.key)) v.key) = D at *
  rw [hP]
  by_cases hk : v.key = k
  · subst hk
    have hD : D.filter (fun u => u.key == v.key) = [] := filter_ne fun u hu e => by have := fD u hu; rw [e] at this; exact lt_irrefl this
    simp only [List.filter_append, hD, if_pos, List.append_nil]
    have : [v].filter (fun u => u.key == v.key) = [v] := by simp
    rw [this, List.append_assoc]
  · have h1 : [v].filter (fun u => u.key == k) = [] := filter_ne fun u hu => by simp at hu; subst hu; exact hk
    rw [if_neg hk]
    simp only [List.filter_append, h1, List.append_nil]
theorem put_own {next : Int} {L : List Vs} {v : Vs} (h : RtB next L) (hr : rfE next L v = 0) (hv : v.seq = next) : RtB (next + 1) (putX L v) ∧ (gpL (putX L v) (fndV (putX L v) v.key) v.key).getLast? = some v := by
  obtain ⟨hp, hX⟩ := h.put hr hv
  refine ⟨hX, ?_⟩
  have hX' : RtB (next + 1) (putX L v) := hX
  rw [gp_filter hX'.srt, put_filter h.srt hp, if_pos rfl, List.getLast?_append]
  rfl
theorem put_top {next : Int} {L : List Vs} {v : Vs} (h : RtB next L) (hr : rfE next L v = 0) (hv : v.seq = next) (hm : v.mkr = false) : toE (gpL (putX L v) (fndV (putX L v) v.key) v.key) = 0 ∧ toV (gpL (putX L v) (fndV (putX L v) v.key) v.key) = v := by
  have := (put_own h hr hv).2
  unfold toE toV lastV
  rw [this]
  simp [hm]
theorem put_gone {next : Int} {L : List Vs} {v : Vs} (h : RtB next L) (hr : rfE next L v = 0) (hv : v.seq = next) (hm : v.mkr = true) : toE (gpL (putX L v) (fndV (putX L v) v.key) v.key) = 73 := by
  have := (put_own h hr hv).2
  unfold toE lastV
  rw [this]
  simp [hm]
theorem put_mem {L : List Vs} {v : Vs} (hp : puE (gpL L (fndV L v.key) v.key) v = 0) : v ∈ putX L v := by
  unfold putX puL
  rw [if_pos hp]
  simp
theorem put_told {next : Int} {L : List Vs} {v : Vs} (h : RtB next L) (hr : rfE next L v = 0) (hv : v.seq = next) : geE (gpL (putX L v) (fndV (putX L v) v.key) v.key) v.seq = 0 ∧ geV (gpL (putX L v) (fndV (putX L v) v.key) v.key) v.seq = v :=
  ge_told (put_own h hr hv).1 (put_mem (h.put hr hv).1)
theorem put_other {next : Int} {L : List Vs} {v : Vs} (h : RtB next L) (hr : rfE next L v = 0) (hv : v.seq = next) {k : List UInt8} (hk : ¬ v.key = k) : gpL (putX L v) (fndV (putX L v) k) k = gpL L (fndV L k) k := by
  rw [gp_filter (put_own h hr hv).1.srt, gp_filter h.srt, put_filter h.srt (h.put hr hv).1, if_neg hk, List.append_nil]
theorem rem_rt {next : Int} {L : List Vs} (h : RtB next L) (k : List UInt8) (s : Int) : RtB next (remX L k s) := h.rem _ _ _
theorem rem_filter {L : List Vs} (hs : SrtV L) (k : List UInt8) (s : Int) (k' : List UInt8) : (remX L k s).filter (fun u => u.key == k') = if k = k' then rmL (gpL L (fndV L k) k) s else L.filter (fun u => u.key == k') := by
  unfold remX
  have hP := parts L (fndV L k) k
  have fA := fun u (hu : u ∈ L.take (fndV L k)) => mem_front hu
  have fG := fun u (hu : u ∈ gpL L (fndV L k) k) => mem_group hu
  have fD := fun u (hu : u ∈ L.drop (fndV L k + ken (L.drop (fndV L k)) k)) => mem_back hs hu
  have hsub := rmL_sub (gpL L (fndV L k) k) s
  generalize L.take (fndV L k) = A at *
  generalize gpL L (fndV L k) k = G at *
  generalize L.drop (fndV L k + ken (L.drop (fndV L k)) k) = D at *
  rw [hP]
  by_cases hk : k = k'
  · subst hk
    rw [if_pos rfl]
    simp only [List.filter_append]
    rw [filter_ne (A := A) fun u hu e => by have := fA u hu; rw [e] at this; exact lt_irrefl this, filter_ne (A := D) fun u hu e => by have := fD u hu; rw [e] at this; exact lt_irrefl this, filter_eq (A := rmL G s) fun u hu => fG u (hsub.subset hu)]
    simp
  · rw [if_neg hk]
    simp only [List.filter_append]
    rw [filter_ne (A := rmL G s) fun u hu e => hk ((fG u (hsub.subset hu)).symm.trans e), filter_ne (A := G) fun u hu e => hk ((fG u hu).symm.trans e)]
theorem rem_other {next : Int} {L : List Vs} (h : RtB next L) (k : List UInt8) (s : Int) {k' : List UInt8} (hk : ¬ k = k') : gpL (remX L k s) (fndV (remX L k s) k') k' = gpL L (fndV L k') k' := by
  rw [gp_filter (rem_rt h k s).srt, gp_filter h.srt, rem_filter h.srt, if_neg hk]
theorem ge_some {G : List Vs} {s : Int} (h : geE G s = 0) : ∃ j, plc G s = some j := by
  unfold geE at h
  split at h
  · omega
  · exact ⟨_, by assumption⟩
theorem rm_none {G : List Vs} {s : Int} (hn : (G.map (·.seq)).Nodup) (h : geE G s = 0) : geE (rmL G s) s = 72 ∧ (rmL G s).length + 1 = G.length := by
  obtain ⟨j, hj⟩ := ge_some h
  obtain ⟨⟨v, hv, e⟩, hlt⟩ := plc_some hj
  obtain ⟨q1, rfl⟩ := List.getElem?_eq_some_iff.1 hv
  have e1 : rmL G s = G.take j ++ G.drop (j + 1) := by unfold rmL; rw [hj]
  rw [e1]
  refine ⟨?_, by simp; omega⟩
  have hno : plc (G.take j ++ G.drop (j + 1)) s = none := plc_no fun u hu => by
    have hp := List.pairwise_iff_getElem.1 hn
    rcases List.mem_append.1 hu with q | q
    · obtain ⟨i, hi⟩ := List.mem_iff_getElem?.1 q
      rw [List.getElem?_take] at hi
      split at hi
      · rename_i z; exact hlt i u z hi
      · cases hi
    · obtain ⟨i, hi⟩ := List.mem_iff_getElem?.1 q
      rw [List.getElem?_drop] at hi
      obtain ⟨q2, rfl⟩ := List.getElem?_eq_some_iff.1 hi
      have := hp j (j + 1 + i) (by simpa using q1) (by simpa using q2) (by omega)
      simp at this
      intro z
      exact this (e.trans z.symm)
  unfold geE
  rw [hno]
theorem rem_gone {next : Int} {L : List Vs} (h : RtB next L) {k : List UInt8} {s : Int} (hg : geE (gpL L (fndV L k) k) s = 0) : geE (gpL (remX L k s) (fndV (remX L k s) k) k) s = 72 ∧ (remX L k s).length + 1 = L.length := by
  have hnd : ((gpL L (fndV L k) k).map (·.seq)).Nodup := by
    rw [gp_filter h.srt]
    exact h.nod.sublist ((List.filter_sublist).map _)
  obtain ⟨h1, h2⟩ := rm_none hnd hg
  refine ⟨?_, ?_⟩
  · rw [gp_filter (rem_rt h k s).srt, rem_filter h.srt, if_pos rfl]; exact h1
  · have hP := congrArg List.length (parts L (fndV L k) k)
    unfold remX
    simp only [List.length_append] at hP ⊢
    omega
end Go.Proofs.YtgcdnanfnbdjjaaGreat

/- What BucketPlays asks, of lists alone. -/
namespace Go.Proofs.YtgcdnanfnbdjjaaGreat
set_option linter.unusedVariables false
set_option linter.unusedSimpArgs false
open Go.RowKit
theorem evl_take (m : Int) : ∀ (n : Nat) (R : List Vs) (X : List Rw), R.length ≤ n → evL (stL m) X R = X ++ (byK nw1 R).take (m - (X.length : Int)).toNat
  | _, [], X, _ => by rw [evL_nil, byK_nil]; simp
  | 0, v :: t, X, hn => by simp at hn
  | n + 1, v :: t, X, hn => by
    have hp := ken_pos v t
    rw [evL_at (v := v) rfl, byK_cons]
    have hd : ((v :: t).drop (ken (v :: t) v.key)).length ≤ n := by rw [List.length_drop]; omega
    generalize (v :: t).take (ken (v :: t) v.key) = G
    by_cases h1 : (X.length : Int) < m
    · have e : stL m X G = (X ++ nw1 G, true) := by
        unfold stL nw1
        rw [if_pos h1]
        cases hG : G.getLast? with
        | none => simp
        | some u => by_cases hm : u.mkr = true <;> simp [hm]
      rw [e]
      simp only [if_true]
      rw [evl_take m n _ _ hd, List.append_assoc]
      congr 1
      have hl := nw1_len G
      rw [List.take_append, List.length_append]
      have e2 : (nw1 G).take (m - (X.length : Int)).toNat = nw1 G := List.take_of_length_le (by omega)
      rw [e2]
      congr 2
      omega
    · have e : stL m X G = (X, false) := by unfold stL; rw [if_neg h1]
      have e0 : (m - (X.length : Int)).toNat = 0 := by omega
      rw [e, e0]
      simp
theorem evv_take (m : Int) : ∀ (n : Nat) (R : List Vs) (X : List Rw), R.length ≤ n → evL (stV m) X R = X ++ (byK rwsL R).take (m - (X.length : Int)).toNat
  | _, [], X, _ => by rw [evL_nil, byK_nil]; simp
  | 0, v :: t, X, hn => by simp at hn
  | n + 1, v :: t, X, hn => by
    have hp := ken_pos v t
    rw [evL_at (v := v) rfl, byK_cons]
    have hd : ((v :: t).drop (ken (v :: t) v.key)).length ≤ n := by rw [List.length_drop]; omega
    generalize (v :: t).take (ken (v :: t) v.key) = G
    have hl := rwsL_len G
    unfold stV
    simp only
    by_cases h1 : G.length ≤ (m - (X.length : Int)).toNat
    · rw [decide_eq_true h1, if_pos rfl]
      have e2 : (rwsL G).take (m - (X.length : Int)).toNat = rwsL G := List.take_of_length_le (by omega)
      have h := evv_take m n ((v :: t).drop (ken (v :: t) v.key)) (X ++ rwsL G) hd
      unfold stV at h
      rw [e2, h, List.append_assoc]
      congr 1
      rw [List.take_append, e2, List.length_append]
      congr 2
      omega
    · rw [decide_eq_false h1, if_neg (by simp), List.take_append_of_le_length (by omega)]
/-- one version of List -/
theorem byK_step (v : Vs) (t : List Vs) : byK nw1 (v :: t) = (match t.head? with | none => nw1 [v] | some u => if u.key = v.key then [] else nw1 [v]) ++ byK nw1 t := by
  cases t with
  | nil => rw [byK_cons]; simp [ken_cons, ken, byK_nil]
  | cons u t' =>
    simp only [List.head?_cons]
    by_cases hk : u.key = v.key
    · rw [if_pos hk, List.nil_append, byK_cons, byK_cons nw1 u t']
      have e : ken (v :: u :: t') v.key = ken (u :: t') u.key + 1 := by rw [ken_cons, if_pos rfl, hk]
      have hp := ken_pos u t'
      rw [e, List.take_succ_cons, List.drop_succ_cons]
      congr 1
      have hne : (u :: t').take (ken (u :: t') u.key) ≠ [] := by
        intro q
        have := congrArg List.length q
        rw [List.length_take] at this
        simp at this
        omega
      unfold nw1
      rw [List.getLast?_cons]
      cases hG : ((u :: t').take (ken (u :: t') u.key)).getLast? with
      | none => exact absurd (List.getLast?_eq_none_iff.1 hG) hne
      | some x => rfl
    · rw [if_neg hk, byK_cons nw1 v]
      have e : ken (v :: u :: t') v.key = 1 := by rw [ken_cons, if_pos rfl, ken_cons, if_neg hk]
      rw [e]
      rfl
/-- where a key's newest version stands -/
def NwP (L : List Vs) (k : List UInt8) (at' : Int) : Prop := (at' = -1 ∧ ∀ u ∈ L, ¬ u.key = k) ∨ (∃ (j : Nat) (u : Vs), at' = (j : Int) ∧ L[j]? = some u ∧ u.key = k ∧ ∀ (i : Nat) (x : Vs), j < i → L[i]? = some x → ¬ x.key = k)
theorem nwp_zero (L : List Vs) (k : List UInt8) : NwP (L.take 0) k (-1) := .inl ⟨rfl, fun u hu => by simp at hu⟩
theorem nwp_no {L : List Vs} {k : List UInt8} {at' : Int} {i : Nat} {v : Vs} (h : NwP (L.take i) k at') (hv : L[i]? = some v) (hk : ¬ v.key = k) : NwP (L.take (i + 1)) k at' := by
  rcases h with ⟨rfl, h⟩ | ⟨j, u, rfl, h1, h2, h3⟩
  · refine .inl ⟨rfl, fun u hu => ?_⟩
    rw [takeV hv] at hu
    rcases List.mem_append.1 hu with q | q
    · exact h u q
    · simp at q; subst q; exact hk
  · refine .inr ⟨j, u, rfl, ?_, h2, fun m x hm hx => ?_⟩
    · rw [takeV hv, List.getElem?_append_left (List.getElem?_eq_some_iff.1 h1).1]; exact h1
    · rw [takeV hv] at hx
      by_cases hq : m < (L.take i).length
      · rw [List.getElem?_append_left hq] at hx; exact h3 m x hm hx
      · rw [List.getElem?_append_right (by omega)] at hx
        have : x ∈ [v] := List.mem_of_getElem? hx
        simp at this
        subst this
        exact hk
theorem nwp_yes {L : List Vs} {k : List UInt8} {i : Nat} {v : Vs} (hv : L[i]? = some v) (hk : v.key = k) : NwP (L.take (i + 1)) k (i : Int) := by
  have hlt := (List.getElem?_eq_some_iff.1 hv).1
  refine .inr ⟨i, v, rfl, ?_, hk, fun m x hm hx => ?_⟩
  · rw [List.getElem?_take, if_pos (by omega)]; exact hv
  · have := (List.getElem?_eq_some_iff.1 hx).1
    rw [List.length_take] at this
    omega
theorem nwp_at {L : List Vs} {k : List UInt8} {at' : Int} {i : Nat} (h : NwP (L.take i) k at') : at' = -1 ∨ ∃ (j : Nat) (u : Vs), j < i ∧ at' = (j : Int) ∧ L[j]? = some u ∧ u.key = k := by
  rcases h with ⟨rfl, _⟩ | ⟨j, u, rfl, h1, h2, _⟩
  · exact .inl rfl
  · rw [List.getElem?_take] at h1
    split at h1
    · rename_i q; exact .inr ⟨j, u, q, rfl, h1, h2⟩
    · cases h1
/-- in order the newer one of a key has a greater number -/
theorem srt_seq {L : List Vs} (hs : SrtV L) {j i : Nat} {u v : Vs} (hj : L[j]? = some u) (hi : L[i]? = some v) (hlt : j < i) (hk : u.key = v.key) : u.seq < v.seq := by
  rcases hs.get hlt hj hi with q | ⟨_, q⟩
  · rw [hk] at q; exact absurd q lt_irrefl
  · exact q
theorem nw_here {L : List Vs} (hs : SrtV L) {i : Nat} {v : Vs} (hi : L[i]? = some v) {at' : Int} (hN : NwP L v.key at') : at' = (i : Int) ↔ ∀ u, L[i + 1]? = some u → ¬ u.key = v.key := by
  constructor
  · rintro rfl u hu
    rcases hN with ⟨q, _⟩ | ⟨j, x, q, _, _, h3⟩
    · omega
    · obtain rfl : i = j := by omega
      exact h3 (i + 1) u (by omega) hu
  · intro h
    rcases hN with ⟨_, q⟩ | ⟨j, x, rfl, h1, h2, h3⟩
    · exact absurd rfl (q v (List.mem_of_getElem? hi))
    · rcases Nat.lt_trichotomy j i with q | q | q
      · exact absurd rfl (h3 i v q hi)
      · rw [q]
      · have hl := (List.getElem?_eq_some_iff.1 h1).1
        obtain ⟨u, hu⟩ : ∃ u, L[i + 1]? = some u := ⟨L[i + 1]'(by omega), List.getElem?_eq_getElem _⟩
        have hne := h u hu
        have h4 := hs.get (Nat.lt_succ_self i) hi hu
        have h5 : ¬ lt x.key u.key := hs.le (by omega : i + 1 ≤ j) hu h1
        have h6 : lt v.key u.key := by
          rcases h4 with q | ⟨q, _⟩
          · exact q
          · exact absurd q.symm hne
        rw [← h2] at h6
        exact absurd h6 h5
theorem list_step {L : List Vs} {i : Nat} {v : Vs} (hi : L[i]? = some v) : ((∀ u, L[i + 1]? = some u → ¬ u.key = v.key) → byK nw1 (L.drop i) = nw1 [v] ++ byK nw1 (L.drop (i + 1))) ∧ (¬ (∀ u, L[i + 1]? = some u → ¬ u.key = v.key) → byK nw1 (L.drop i) = byK nw1 (L.drop (i + 1))) := by
  obtain ⟨hlt, rfl⟩ := List.getElem?_eq_some_iff.1 hi
  have e : L.drop i = L[i] :: L.drop (i + 1) := List.drop_eq_getElem_cons hlt
  have eh : (L.drop (i + 1)).head? = L[i + 1]? := by rw [List.head?_drop]
  rw [e, byK_step, eh]
  cases hq : L[i + 1]? with
  | none => exact ⟨fun _ => rfl, fun h => absurd (fun u hu => by cases hu) h⟩
  | some u =>
    simp only
    by_cases hk : u.key = L[i].key
    · rw [if_pos hk]
      exact ⟨fun h => absurd hk (h u rfl), fun _ => by rw [List.nil_append]⟩
    · rw [if_neg hk]
      exact ⟨fun _ => rfl, fun h => absurd (fun x hx => by injection hx with hx; subst hx; exact hk) h⟩
theorem nw1_one (v : Vs) : nw1 [v] = if v.mkr = true then [] else [rwOf v] := rfl
/-- Get -/
theorem last_filter {L : List Vs} {j : Nat} {u : Vs} {k : List UInt8} (h : L[j]? = some u) (hk : u.key = k) (hn : ∀ (i : Nat) (x : Vs), j < i → L[i]? = some x → ¬ x.key = k) : (L.filter (fun w => w.key == k)).getLast? = some u := by
  obtain ⟨hlt, rfl⟩ := List.getElem?_eq_some_iff.1 h
  have e : L = L.take j ++ L[j] :: L.drop (j + 1) := by rw [← List.drop_eq_getElem_cons hlt, List.take_append_drop]
  have hD : (L.drop (j + 1)).filter (fun w => w.key == k) = [] := filter_ne fun x hx => by
    obtain ⟨i, hi⟩ := List.mem_iff_getElem?.1 hx
    rw [List.getElem?_drop] at hi
    exact hn _ x (by omega) hi
  have e2 : L.filter (fun w => w.key == k) = (L.take j ++ L[j] :: L.drop (j + 1)).filter (fun w => w.key == k) := congrArg _ e
  rw [e2, List.filter_append, List.filter_cons, hD]
  simp [hk]
theorem nw_get {L : List Vs} (hs : SrtV L) {k : List UInt8} {at' : Int} (hN : NwP L k at') : (at' = -1 ∧ toE (gpL L (fndV L k) k) = 72 ∧ toV (gpL L (fndV L k) k) = vs0) ∨ (∃ (j : Nat) (u : Vs), at' = (j : Int) ∧ L[j]? = some u ∧ u.key = k ∧ toE (gpL L (fndV L k) k) = (if u.mkr = true then 73 else 0) ∧ toV (gpL L (fndV L k) k) = (if u.mkr = true then vs0 else u)) := by
  rw [gp_filter hs]
  rcases hN with ⟨rfl, h⟩ | ⟨j, u, rfl, h1, h2, h3⟩
  · left
    rw [filter_ne h]
    exact ⟨rfl, rfl, rfl⟩
  · right
    have := last_filter h1 h2 h3
    refine ⟨j, u, rfl, h1, h2, ?_, ?_⟩
    · unfold toE lastV; rw [this]
    · unfold toV lastV; rw [this]
/-- GetVersion -/
theorem gv_none {L : List Vs} (hs : SrtV L) {k : List UInt8} {s : Int} (h : ∀ u ∈ L, ¬ (u.key = k ∧ u.seq = s)) : geE (gpL L (fndV L k) k) s = 72 ∧ geV (gpL L (fndV L k) k) s = vs0 := by
  rw [gp_filter hs]
  have : plc (L.filter (fun u => u.key == k)) s = none := plc_no fun u hu e => by
    obtain ⟨q1, q2⟩ := List.mem_filter.1 hu
    exact h u q1 ⟨by simpa using q2, e⟩
  unfold geE geV
  rw [this]
  exact ⟨rfl, rfl⟩
/-- where a version comes -/
noncomputable def plX (L : List Vs) (k : List UInt8) : Nat := fndV L k + ken (L.drop (fndV L k)) k
theorem plx_le (L : List Vs) (k : List UInt8) : plX L k ≤ L.length := ken_drop (fndV_le L k) k
theorem plx_iff {next : Int} {L : List Vs} (h : RtB next L) {v : Vs} (hv : v.seq = next) {i : Nat} {u : Vs} (hu : L[i]? = some u) : ltv v u ↔ plX L v.key ≤ i := by
  unfold plX
  by_cases h1 : i < fndV L v.key
  · have hl := fndV_lt h1 hu
    refine ⟨fun q => ?_, fun q => by omega⟩
    rcases q with q | ⟨q, _⟩
    · exact absurd (bcmp_trans q hl) lt_irrefl
    · rw [q] at hl; exact absurd hl lt_irrefl
  · by_cases h2 : i < fndV L v.key + ken (L.drop (fndV L v.key)) v.key
    · have hg : u ∈ gpL L (fndV L v.key) v.key := by
        unfold gpL
        refine List.mem_of_getElem? (i := i - fndV L v.key) ?_
        rw [List.getElem?_take, if_pos (by omega), List.getElem?_drop, show fndV L v.key + (i - fndV L v.key) = i by omega]
        exact hu
      have hk := mem_group hg
      have := (h.ok u (List.mem_of_getElem? hu)).2.1
      refine ⟨fun q => ?_, fun q => by omega⟩
      rcases q with q | ⟨_, q⟩
      · rw [hk] at q; exact absurd q lt_irrefl
      · omega
    · have hb : u ∈ L.drop (fndV L v.key + ken (L.drop (fndV L v.key)) v.key) := by
        refine List.mem_of_getElem? (i := i - (fndV L v.key + ken (L.drop (fndV L v.key)) v.key)) ?_
        rw [List.getElem?_drop, show fndV L v.key + ken (L.drop (fndV L v.key)) v.key + (i - (fndV L v.key + ken (L.drop (fndV L v.key)) v.key)) = i by omega]
        exact hu
      exact ⟨fun _ => by omega, fun _ => .inl (mem_back h.srt hb)⟩
theorem plx_put {L : List Vs} {v : Vs} (hp : puE (gpL L (fndV L v.key) v.key) v = 0) : L.take (plX L v.key) ++ v :: L.drop (plX L v.key) = putX L v := by
  unfold putX puL plX
  rw [if_pos hp]
  have : L.take (fndV L v.key + ken (L.drop (fndV L v.key)) v.key) = L.take (fndV L v.key) ++ gpL L (fndV L v.key) v.key := by
    unfold gpL
    rw [List.take_add]
  rw [this]
  simp
/-- DeleteVersion -/
def rmB (k : List UInt8) (s : Int) (u : Vs) : Bool := !(u.key == k && u.seq == s)
theorem rm_filter {G : List Vs} {s : Int} (hn : (G.map (·.seq)).Nodup) {j : Nat} (hj : plc G s = some j) : G.filter (fun u => !(u.seq == s)) = G.take j ++ G.drop (j + 1) := by
  obtain ⟨⟨v, hv, e⟩, hlt⟩ := plc_some hj
  obtain ⟨q1, rfl⟩ := List.getElem?_eq_some_iff.1 hv
  have e0 : G = G.take j ++ G[j] :: G.drop (j + 1) := by rw [← List.drop_eq_getElem_cons q1, List.take_append_drop]
  have hp := List.pairwise_iff_getElem.1 hn
  have h1 : (G.take j).filter (fun u => !(u.seq == s)) = G.take j := List.filter_eq_self.2 fun u hu => by
    obtain ⟨i, hi⟩ := List.mem_iff_getElem?.1 hu
    rw [List.getElem?_take] at hi
    split at hi
    · rename_i z; simpa using hlt i u z hi
    · cases hi
  have h2 : (G.drop (j + 1)).filter (fun u => !(u.seq == s)) = G.drop (j + 1) := List.filter_eq_self.2 fun u hu => by
    obtain ⟨i, hi⟩ := List.mem_iff_getElem?.1 hu
    rw [List.getElem?_drop] at hi
    obtain ⟨q2, rfl⟩ := List.getElem?_eq_some_iff.1 hi
    have := hp j (j + 1 + i) (by simpa using q1) (by simpa using q2) (by omega)
    simp at this
    simp
    intro z
    exact this (e.trans z.symm)
  conv => lhs; rw [e0]
  rw [List.filter_append, List.filter_cons, h1, h2]
  simp [e]
theorem rem_is {next : Int} {L : List Vs} (h : RtB next L) {k : List UInt8} {s : Int} (hg : geE (gpL L (fndV L k) k) s = 0) : L.filter (rmB k s) = remX L k s := by
  have hnd : ((gpL L (fndV L k) k).map (·.seq)).Nodup := by
    rw [gp_filter h.srt]
    exact h.nod.sublist ((List.filter_sublist).map _)
  obtain ⟨j, hj⟩ := ge_some hg
  have h1 := rm_filter hnd hj
  have e1 : rmL (gpL L (fndV L k) k) s = (gpL L (fndV L k) k).take j ++ (gpL L (fndV L k) k).drop (j + 1) := by unfold rmL; rw [hj]
  unfold remX
  rw [e1, ← h1]
  have hP := parts L (fndV L k) k
  have fA := fun u (hu : u ∈ L.take (fndV L k)) => mem_front hu
  have fG := fun u (hu : u ∈ gpL L (fndV L k) k) => mem_group hu
  have fD := fun u (hu : u ∈ L.drop (fndV L k + ken (L.drop (fndV L k)) k)) => mem_back h.srt hu
  generalize L.take (fndV L k) = A at *
  generalize gpL L (fndV L k) k = G at *
  generalize L.drop (fndV L k + ken (L.drop (fndV L k)) k) = D at *
  rw [hP, List.filter_append, List.filter_append]
  have a1 : A.filter (rmB k s) = A := List.filter_eq_self.2 fun u hu => by
    have : ¬ u.key = k := fun e => by have := fA u hu; rw [e] at this; exact lt_irrefl this
    simp [rmB, this]
  have a2 : D.filter (rmB k s) = D := List.filter_eq_self.2 fun u hu => by
    have : ¬ u.key = k := fun e => by have := fD u hu; rw [e] at this; exact lt_irrefl this
    simp [rmB, this]
  have a3 : G.filter (rmB k s) = G.filter (fun u => !(u.seq == s)) := List.filter_congr fun u hu => by simp [rmB, fG u hu]
  rw [a1, a2, a3]
theorem gone_iff {next : Int} {L : List Vs} (h : RtB next L) (k : List UInt8) (s : Int) : geE (gpL L (fndV L k) k) s = 0 ↔ ∃ u ∈ L, u.key = k ∧ u.seq = s := by
  constructor
  · intro hg
    obtain ⟨j, hj⟩ := ge_some hg
    obtain ⟨⟨u, hu, e⟩, _⟩ := plc_some hj
    have hm := List.mem_of_getElem? hu
    refine ⟨u, ?_, mem_group hm, e⟩
    rw [gp_filter h.srt] at hm
    exact (List.mem_filter.1 hm).1
  · rintro ⟨u, hu, rfl, rfl⟩
    exact (ge_told h hu).1
end Go.Proofs.YtgcdnanfnbdjjaaGreat

/- The document's SameMeta and SameVersion. -/
namespace Go.Proofs.YtgcdnanfnbdjjaaGreat
set_option linter.unusedVariables false
set_option linter.unusedSimpArgs false
open Go.RowKit
attribute [local go_sem ↓] Go.wp_at_zero Go.wp_at_succ
noncomputable def smP (a b : List En) : Bool := by classical exact decide (a = b)
theorem smP_true {a b : List En} (h : a = b) : smP a b = true := by unfold smP; simp [h]
theorem smP_false {a b : List En} (h : ¬ a = b) : smP a b = false := by unfold smP; simp [h]
set_option maxRecDepth 100000 in
set_option maxHeartbeats 4000000 in
theorem qSameMeta_any (l l' : List En) (w : World) (a : Option Addr) (n cap : Nat) (hn : l.length = n) (hP : PIn w a l) (hz : l.length ≤ 9223372036854775806) (a' : Option Addr) (n' cap' : Nat) (hn' : l'.length = n') (hP' : PIn w a' l') (hz' : l'.length ≤ 9223372036854775806) :
    Calls Tryz.prog 16 #[.slice a n cap, .slice a' n' cap'] w fun e w' => e = .returned (.bool (smP l l')) ∧ Below w.heap.size w w' := by
  subst hn hn'
  by_cases h5 : l.length = l'.length
  · have d5 : ((l.length : Int) != (l'.length : Int)) = false := by rw [bne_eq_false_iff_eq]; omega
    have HL := Hid.mk h5
    clear h5
    have HS1 : Hid (l = l' → smP l l' = true) := ⟨smP_true⟩
    have HS2 : Hid (¬ l = l' → smP l l' = false) := ⟨smP_false⟩
    generalize smP l l' = SV at *
    go_enter Tryz.func16, Tryz.ntmps16
    go_wp2_with fail
    go_loopw [5] (fun i wr => ∃ k : Nat, k ≤ l.length ∧ i = .int .i64 (k : Int) ∧ l.take k = l'.take k ∧ Hid (Below w.heap.size w wr)) (fun i _ => l.length - (intOf i).toNat)
    case atStart => exact ⟨0, by omega, rfl, by simp, ⟨Below.refl _ _⟩⟩
    case round =>
      obtain ⟨k, hk, rfl, hab, HB⟩ := hrel
      have hbe := HB.out
      by_cases h1 : k < l.length
      · have d1 : decide ((k : Int) < (l.length : Int)) = true := decide_eq_true (by omega)
        have k1 : (k : Int) < (l.length : Int) := by omega
        have h2 : k < l'.length := by rw [← HL.out]; exact h1
        have k2 : (k : Int) < (l'.length : Int) := by omega
        obtain ⟨p, hp⟩ : ∃ p, l[k]? = some p := ⟨l[k], List.getElem?_eq_getElem h1⟩
        obtain ⟨b1, off1, rfl, hbl, c0, c1⟩ := (hP.later hbe).get k p hp
        obtain ⟨q, hq⟩ : ∃ q, l'[k]? = some q := ⟨l'[k], List.getElem?_eq_getElem h2⟩
        obtain ⟨b2, off2, rfl, hbl2, e0, e1⟩ := (hP'.later hbe).get k q hq
        by_cases hpq : p = q
        · subst hpq
          have HT : Hid (l.take (k + 1) = l'.take (k + 1)) := ⟨take_nextV hp hq hab⟩
          clear hab
          go_wp2_with fail
          go_quiet (fail)
          go_wp2_with fail
          exact ⟨⟨k + 1, by omega, by go_num, HT.out, ⟨below_dN HB.out nq⟩⟩, by simp [intOf]; omega⟩
        · have HS : Hid (SV = false) := ⟨HS2.out (take_neV hp hq hpq)⟩
          clear hab
          obtain ⟨pk, pt⟩ := p
          obtain ⟨qk, qt⟩ := q
          dsimp only at *
          by_cases h3 : pk = qk
          · subst h3
            have d5 : (pt == qt) = false := by rw [beq_eq_false_iff_ne]; rintro rfl; exact hpq rfl
            clear hpq
            go_wp2_with fail
            go_quiet (fail)
            go_wp2_with fail
            go_ret
            exact ⟨by rw [HS.out]; rfl, below_dN hbe nq⟩
          · have d5 : (pk == qk) = false := by rw [beq_eq_false_iff_ne]; exact h3
            clear hpq
            go_wp2_with fail
            go_quiet (fail)
            go_wp2_with fail
            go_ret
            exact ⟨by rw [HS.out]; rfl, below_dN hbe nq⟩
      · obtain rfl : k = l.length := by omega
        have d1 : decide ((l.length : Int) < (l.length : Int)) = false := decide_eq_false (by omega)
        have HS : Hid (SV = true) := ⟨HS1.out (by
          have e := hab
          rw [List.take_length] at e
          rw [HL.out, List.take_length] at e
          exact e)⟩
        clear hab
        go_wp2_with fail
        go_ret
        exact ⟨by rw [HS.out]; rfl, hbe⟩
  · have HS : Hid (smP l l' = false) := ⟨smP_false (by rintro rfl; exact h5 rfl)⟩
    generalize smP l l' = SV at *
    have d5 : ((l.length : Int) != (l'.length : Int)) = true := by rw [bne_iff_ne]; omega
    clear h5
    go_enter Tryz.func16, Tryz.ntmps16
    go_wp2_with fail
    go_ret
    exact ⟨by rw [HS.out]; rfl, Below.refl _ _⟩
set_option maxRecDepth 100000 in
set_option maxHeartbeats 4000000 in
theorem qSameVersion_any (v u : Vs) (w : World) (a : Option Addr) (n cap : Nat) (hn : v.l.length = n) (hP : PIn w a v.l) (hz : v.l.length ≤ 9223372036854775806) (a' : Option Addr) (n' cap' : Nat) (hn' : u.l.length = n') (hP' : PIn w a' u.l) (hz' : u.l.length ≤ 9223372036854775806) :
    Calls Tryz.prog 39 #[vv v.key v.seq v.mkr v.data a n cap, vv u.key u.seq u.mkr u.data a' n' cap'] w fun e w' => e = .returned (.bool (sv v u)) ∧ Below w.heap.size w w' := by
  subst hn hn'
  have b1 := (Below.refl w.heap.size w).alloc (Nat.le_refl _) (.cells #[str v.key, .int .i64 v.seq, .bool v.mkr, str v.data, .slice a v.l.length cap] 39)
  have b2 := b1.alloc b1.size (.cells #[str u.key, .int .i64 u.seq, .bool u.mkr, str u.data, .slice a' u.l.length cap'] 39)
  clear b1
  have hc := qSameMeta_any v.l u.l _ a _ cap rfl (hP.later b2) hz a' _ cap' rfl (hP'.later b2) hz'
  clear hP hP' hz hz'
  obtain ⟨key, seq, mk, data, l⟩ := v
  obtain ⟨key', seq', mk', data', l'⟩ := u
  simp only at *
  by_cases h1 : key = key'
  · subst h1
    by_cases h2 : seq = seq'
    · subst h2
      by_cases h3 : mk = mk'
      · subst h3
        by_cases h4 : data = data'
        · subst h4
          have HS : Hid (sv ⟨key, seq, mk, data, l⟩ ⟨key, seq, mk, data, l'⟩ = smP l l') := ⟨by
            by_cases h : l = l'
            · rw [sv_true (by rw [h]), smP_true h]
            · rw [sv_false (by intro q; injection q with _ _ _ _ q; exact h q), smP_false h]⟩
          generalize smP l l' = SM at *
          go_enter Tryz.func39, Tryz.ntmps39
          go_wp2_with (go_at_call 16; refine hc.mono ?_; rintro e w3 ⟨rfl, b3⟩)
          go_ret
          exact ⟨by rw [HS.out]; rfl, below_seq b2 b3⟩
        · have HS : Hid (sv ⟨key, seq, mk, data, l⟩ ⟨key, seq, mk, data', l'⟩ = false) := ⟨sv_false (by intro q; injection q with _ _ _ q; exact h4 q)⟩
          have d5 : (data == data') = false := by rw [beq_eq_false_iff_ne]; exact h4
          clear h4 hc
          go_enter Tryz.func39, Tryz.ntmps39
          go_wp2_with fail
          go_ret
          exact ⟨by rw [HS.out]; rfl, b2⟩
      · have HS : Hid (sv ⟨key, seq, mk, data, l⟩ ⟨key, seq, mk', data', l'⟩ = false) := ⟨sv_false (by intro q; injection q with _ _ q; exact h3 q)⟩
        have d5 : (mk == mk') = false := by rw [beq_eq_false_iff_ne]; exact h3
        clear h3 hc
        go_enter Tryz.func39, Tryz.ntmps39
        go_wp2_with fail
        go_ret
        exact ⟨by rw [HS.out]; rfl, b2⟩
    · have HS : Hid (sv ⟨key, seq, mk, data, l⟩ ⟨key, seq', mk', data', l'⟩ = false) := ⟨sv_false (by intro q; injection q with _ q; exact h2 q)⟩
      have d5 : (seq == seq') = false := by rw [beq_eq_false_iff_ne]; exact h2
      have d6 : (seq != seq') = true := by rw [bne_iff_ne]; exact h2
      have d7 : decide (seq = seq') = false := decide_eq_false h2
      clear h2 hc
      go_enter Tryz.func39, Tryz.ntmps39
      go_wp2_with fail
      go_ret
      exact ⟨by rw [HS.out]; rfl, b2⟩
  · have HS : Hid (sv ⟨key, seq, mk, data, l⟩ ⟨key', seq', mk', data', l'⟩ = false) := ⟨sv_false (by intro q; injection q with q; exact h1 q)⟩
    have d5 : (key == key') = false := by rw [beq_eq_false_iff_ne]; exact h1
    clear h1 hc
    go_enter Tryz.func39, Tryz.ntmps39
    go_wp2_with fail
    go_ret
    exact ⟨by rw [HS.out]; rfl, b2⟩
end Go.Proofs.YtgcdnanfnbdjjaaGreat

/- others: is another key told as before? -/
namespace Go.Proofs.YtgcdnanfnbdjjaaGreat
set_option linter.unusedVariables false
set_option linter.unusedSimpArgs false
open Go.RowKit
attribute [local go_sem ↓] Go.wp_at_zero Go.wp_at_succ
theorem ow_pin {base : Nat} {w : World} {a : Option Addr} {n c : Nat} {l : List En} (h : Ow base w (.slice a n c) l) : PIn w a l := by
  obtain ⟨a', c', e', s'⟩ := h.slice
  injection e' with e1 e2 e3
  subst e1
  exact s'
/-- what Get answers of a right value -/
noncomputable def gtE (L : List Vs) (k : List UInt8) : Int := if keyE k = 0 then toE (gpL L (fndV L k) k) else keyE k
noncomputable def gtV (L : List Vs) (k : List UInt8) : Vs := if keyE k = 0 then toV (gpL L (fndV L k) k) else vs0
theorem get_r (L : List Vs) (next : Int) (k : List UInt8) (w : World) (a : Option Addr) (c : Nat) (hs : SrtV L) (hL : Li w L a L.length c) : Calls Tryz.prog 20 #[bv next a L.length c, str k] w fun e w' => RV w w' e (gtV L k) (gtE L k) := by
  refine (bGet_any L next k w a _ c hL).mono ?_
  rintro e w' ⟨i, hi, h, had⟩
  obtain rfl := h hs
  unfold gtV gtE
  rcases had with ⟨q1, q⟩ | ⟨q1, q⟩
  · rw [if_neg q1, if_neg q1]; exact q
  · rw [if_pos q1, if_pos q1]; exact q
theorem toV_in (G : List Vs) : toV G = vs0 ∨ toV G ∈ G := by
  unfold toV lastV
  cases h : G.getLast? with
  | none => exact .inl rfl
  | some u =>
    by_cases hm : u.mkr = true
    · left; simp [hm]
    · right; simp [hm]; exact List.mem_of_getLast? h
theorem gtV_in {L : List Vs} (hs : SrtV L) (k : List UInt8) : gtV L k = vs0 ∨ gtV L k ∈ L := by
  unfold gtV
  split
  · rcases toV_in (gpL L (fndV L k) k) with q | q
    · exact .inl q
    · right
      rw [gp_filter hs] at q ⊢
      exact (List.mem_filter.1 q).1
  · exact .inl rfl
theorem gtV_len {next : Int} {L : List Vs} (h : RtB next L) (k : List UInt8) : (gtV L k).l.length ≤ 1000000 := by
  rcases gtV_in h.srt k with q | q
  · rw [q]; simp [vs0]
  · have := vr_size (h.ok _ q).2.2
    have h3 := (vrV_iff.1 (h.ok _ q).2.2).1.2.2
    unfold mtE at h3
    split at h3
    · rename_i z; omega
    · omega
end Go.Proofs.YtgcdnanfnbdjjaaGreat

/- What the calls answer of a right value. -/
namespace Go.Proofs.YtgcdnanfnbdjjaaGreat
set_option linter.unusedVariables false
set_option linter.unusedSimpArgs false
open Go.RowKit
theorem rt_pz {next : Int} {L : List Vs} (h : RtB next L) : ∀ u ∈ L, Pz u.l := fun u hu => by
  have h3 := (vrV_iff.1 (h.ok u hu).2.2).1.2.2
  unfold mtE at h3
  split at h3
  · rename_i q3
    intro k e he
    have h2 := q3.2.1 e (List.mem_of_getElem? he)
    unfold prb smN at h2
    simp at h2
    omega
  · omega
/-- the program's Put, Delete of a right value -/
def PtP (w w' : World) (e : Ending) (next : Int) (L : List Vs) (v : Vs) : Prop := (¬ rfE next L v = 0 ∧ RC w w' e 0 [] 0 (rfE next L v)) ∨ (rfE next L v = 0 ∧ RC w w' e (next + 1) (putX L v) next 0)
theorem wr_next {next : Int} {L : List Vs} (h : RtB next L) : wrap64 (next + 1) = next + 1 := by have := h.n1; have := h.n2; unfold wrap64; omega
theorem adp_pt {w w' : World} {e : Ending} {next : Int} {L : List Vs} {i : Nat} {v : Vs} (h : RtB next L) (hv : v.seq = next) (hs : SrtV L → i = fndV L v.key) (had : AdP w w' e next L i v) : PtP w w' e next L v := by
  obtain rfl := hs h.srt
  rcases had with ⟨q1, q2⟩ | ⟨q1, q2, _⟩ | ⟨q1, _, q3⟩
  · exact .inl ⟨q1, q2⟩
  · exact absurd (h.put q1 hv).1 q2
  · rw [wr_next h, hv] at q3
    exact .inr ⟨q1, q3⟩
theorem put_r {next : Int} {L : List Vs} (h : RtB next L) (k d : List UInt8) (l : List En) (w : World) (a : Option Addr) (cap : Nat) (va : Option Addr) (vc : Nat) (hL : Li w L a L.length cap) (hS : Sl w va vc l) (hz : l.length ≤ 4398046510976) :
    Calls Tryz.prog 19 #[bv next a L.length cap, str k, str d, .slice va l.length vc] w fun e w' => PtP w w' e next L ⟨k, next, false, d, l⟩ := by
  refine (bPut_any L next k d l w a _ cap va _ vc hL rfl hS hz).mono ?_
  rintro e w' ⟨i, hi, hs, had⟩
  exact adp_pt h rfl hs had
theorem del_r {next : Int} {L : List Vs} (h : RtB next L) (k : List UInt8) (w : World) (a : Option Addr) (cap : Nat) (hL : Li w L a L.length cap) :
    Calls Tryz.prog 22 #[bv next a L.length cap, str k] w fun e w' => PtP w w' e next L ⟨k, next, true, [], []⟩ := by
  refine (bDelete_any L next k w a _ cap hL).mono ?_
  rintro e w' ⟨i, hi, hs, had⟩
  exact adp_pt h rfl hs had
/-- what GetVersion, DeleteVersion answer of a right value -/
noncomputable def gvE (L : List Vs) (k : List UInt8) (s : Int) : Int := if keyE k = 0 then geE (gpL L (fndV L k) k) s else keyE k
noncomputable def gvV (L : List Vs) (k : List UInt8) (s : Int) : Vs := if keyE k = 0 then geV (gpL L (fndV L k) k) s else vs0
theorem gvn_r (L : List Vs) (next : Int) (k : List UInt8) (s : Int) (w : World) (a : Option Addr) (c : Nat) (hs : SrtV L) (hL : Li w L a L.length c) : Calls Tryz.prog 21 #[bv next a L.length c, str k, .int .i64 s] w fun e w' => RV w w' e (gvV L k s) (gvE L k s) := by
  refine (bGetVersion_any L next k s w a _ c hL).mono ?_
  rintro e w' ⟨i, hi, h, had⟩
  obtain rfl := h hs
  unfold gvV gvE
  rcases had with ⟨q1, q⟩ | ⟨q1, q⟩
  · rw [if_neg q1, if_neg q1]; exact q
  · rw [if_pos q1, if_pos q1]; exact q
def RmP (w w' : World) (e : Ending) (next : Int) (L : List Vs) (k : List UInt8) (s : Int) : Prop := (¬ gvE L k s = 0 ∧ RB w w' e 0 [] (gvE L k s)) ∨ (gvE L k s = 0 ∧ RB w w' e next (remX L k s) 0)
theorem rem_r {next : Int} {L : List Vs} (h : RtB next L) (k : List UInt8) (s : Int) (w : World) (a : Option Addr) (c : Nat) (hL : Li w L a L.length c) : Calls Tryz.prog 23 #[bv next a L.length c, str k, .int .i64 s] w fun e w' => RmP w w' e next L k s := by
  refine (bDeleteVersion_any L next k s w a _ c hL).mono ?_
  rintro e w' ⟨i, hi, hs, had⟩
  obtain rfl := hs h.srt
  unfold RmP gvE
  rcases had with ⟨q1, q⟩ | ⟨q1, q2, q⟩ | ⟨q1, q2, q⟩
  · rw [if_neg q1]; exact .inl ⟨q1, q⟩
  · rw [if_pos q1, q2]; exact .inl ⟨by decide, q⟩
  · rw [if_pos q1]; exact .inr ⟨q2, q⟩
theorem right_r {next : Int} {L : List Vs} (h : RtB next L) (w : World) (a : Option Addr) (c : Nat) (hL : Li w L a L.length c) : Calls Tryz.prog 8 #[bv next a L.length c] w fun e w' => e = .returned (.bool true) ∧ Below w.heap.size w w' := by
  refine (qRight_any L next w a _ c hL (rt_pz h)).mono ?_
  rintro e w' ⟨⟨t, rfl, ht⟩, b⟩
  exact ⟨by rw [ht.2 h], b⟩
theorem rf_key {next : Int} {L : List Vs} {v : Vs} (h : rfE next L v = 0) : keyE v.key = 0 := (vrV_iff.1 (rfE_zero h).1).1.1
theorem put_get {next : Int} {L : List Vs} {v : Vs} (h : RtB next L) (hr : rfE next L v = 0) (hv : v.seq = next) (hm : v.mkr = false) : gtE (putX L v) v.key = 0 ∧ gtV (putX L v) v.key = v := by
  unfold gtE gtV
  rw [if_pos (rf_key hr), if_pos (rf_key hr)]
  exact put_top h hr hv hm
theorem del_get {next : Int} {L : List Vs} {v : Vs} (h : RtB next L) (hr : rfE next L v = 0) (hv : v.seq = next) (hm : v.mkr = true) : gtE (putX L v) v.key = 73 := by
  unfold gtE
  rw [if_pos (rf_key hr)]
  exact put_gone h hr hv hm
theorem put_gv {next : Int} {L : List Vs} {v : Vs} (h : RtB next L) (hr : rfE next L v = 0) (hv : v.seq = next) : gvE (putX L v) v.key v.seq = 0 ∧ gvV (putX L v) v.key v.seq = v := by
  unfold gvE gvV
  rw [if_pos (rf_key hr), if_pos (rf_key hr)]
  exact put_told h hr hv
theorem put_oth {next : Int} {L : List Vs} {v : Vs} (h : RtB next L) (hr : rfE next L v = 0) (hv : v.seq = next) {k : List UInt8} (hk : ¬ v.key = k) : gtV (putX L v) k = gtV L k ∧ gtE (putX L v) k = gtE L k := by
  unfold gtV gtE
  rw [put_other h hr hv hk]
  exact ⟨rfl, rfl⟩
theorem rem_oth {next : Int} {L : List Vs} (h : RtB next L) (k : List UInt8) (s : Int) {k' : List UInt8} (hk : ¬ k = k') : gtV (remX L k s) k' = gtV L k' ∧ gtE (remX L k s) k' = gtE L k' := by
  unfold gtV gtE
  rw [rem_other h k s hk]
  exact ⟨rfl, rfl⟩
theorem gv_key {L : List Vs} {k : List UInt8} {s : Int} (h : gvE L k s = 0) : keyE k = 0 ∧ geE (gpL L (fndV L k) k) s = 0 := by
  unfold gvE at h
  split at h
  · rename_i q; exact ⟨q, h⟩
  · rename_i q; exact absurd h q
theorem rem_gv {next : Int} {L : List Vs} (h : RtB next L) {k : List UInt8} {s : Int} (hg : gvE L k s = 0) : gvE (remX L k s) k s = 72 ∧ (remX L k s).length + 1 = L.length := by
  obtain ⟨h1, h2⟩ := gv_key hg
  obtain ⟨h3, h4⟩ := rem_gone h h2
  refine ⟨?_, h4⟩
  unfold gvE
  rw [if_pos h1]
  exact h3
end Go.Proofs.YtgcdnanfnbdjjaaGreat
