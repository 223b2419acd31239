/- A delta's lists: what is from a number on, what is below it, two lists laid together. No model here. -/
import Derived.Test.YtaibbeepgelepaaRtm
namespace Go.Proofs.Ytaibbeepgelepaa
set_option linter.unusedVariables false
set_option linter.unusedSimpArgs false
/-- those from a number on -/
def snL (m : Int) (L : List Vs) : List Vs := L.filter (fun v => decide (m ≤ v.seq))
/-- those below it -/
def blL (m : Int) (L : List Vs) : List Vs := L.filter (fun v => decide (v.seq < m))
theorem snL_nil (m : Int) : snL m [] = [] := rfl
theorem blL_nil (m : Int) : blL m [] = [] := rfl
theorem fil_step {p : Vs → Bool} {L : List Vs} {k : Nat} {u : Vs} (h : L[k]? = some u) : (L.take (k + 1)).filter p = if p u = true then (L.take k).filter p ++ [u] else (L.take k).filter p := by
  rw [takeV h, List.filter_append]
  by_cases hp : p u = true
  · rw [if_pos hp]; simp [hp]
  · rw [if_neg hp]; simp [hp]
theorem snL_yes {m : Int} {L : List Vs} {k : Nat} {u : Vs} (h : L[k]? = some u) (hu : m ≤ u.seq) : snL m (L.take (k + 1)) = snL m (L.take k) ++ [u] := by
  unfold snL; rw [fil_step h, if_pos (by simpa using hu)]
theorem snL_no {m : Int} {L : List Vs} {k : Nat} {u : Vs} (h : L[k]? = some u) (hu : ¬ m ≤ u.seq) : snL m (L.take (k + 1)) = snL m (L.take k) := by
  unfold snL; rw [fil_step h, if_neg (by simpa using hu)]
theorem blL_yes {m : Int} {L : List Vs} {k : Nat} {u : Vs} (h : L[k]? = some u) (hu : u.seq < m) : blL m (L.take (k + 1)) = blL m (L.take k) ++ [u] := by
  unfold blL; rw [fil_step h, if_pos (by simpa using hu)]
theorem blL_no {m : Int} {L : List Vs} {k : Nat} {u : Vs} (h : L[k]? = some u) (hu : ¬ u.seq < m) : blL m (L.take (k + 1)) = blL m (L.take k) := by
  unfold blL; rw [fil_step h, if_neg (by simpa using hu)]
theorem snL_len (m : Int) (L : List Vs) : (snL m L).length ≤ L.length := List.length_filter_le _ _
theorem blL_len (m : Int) (L : List Vs) : (blL m L).length ≤ L.length := List.length_filter_le _ _
theorem snL_mem {m : Int} {L : List Vs} {v : Vs} (h : v ∈ snL m L) : v ∈ L ∧ m ≤ v.seq := by
  have := List.mem_filter.1 h
  exact ⟨this.1, by simpa using this.2⟩
theorem blL_mem {m : Int} {L : List Vs} {v : Vs} (h : v ∈ blL m L) : v ∈ L ∧ v.seq < m := by
  have := List.mem_filter.1 h
  exact ⟨this.1, by simpa using this.2⟩
/-- two lists laid together: where neither goes ahead the first one's does -/
def mg : List Vs → List Vs → List Vs
  | [], d => d
  | x :: b, [] => x :: b
  | x :: b, y :: d => if ltv y x then y :: mg (x :: b) d else x :: mg b (y :: d)
termination_by b d => b.length + d.length
theorem mg_nil (d : List Vs) : mg [] d = d := by unfold mg; rfl
theorem mg_nil2 (b : List Vs) : mg b [] = b := by
  cases b with
  | nil => unfold mg; rfl
  | cons x b => unfold mg; rfl
theorem mg_right {x y : Vs} {b d : List Vs} (h : ltv y x) : mg (x :: b) (y :: d) = y :: mg (x :: b) d := by
  rw [mg, if_pos h]
theorem mg_left {x y : Vs} {b d : List Vs} (h : ¬ ltv y x) : mg (x :: b) (y :: d) = x :: mg b (y :: d) := by
  rw [mg, if_neg h]
theorem mg_perm : ∀ (n : Nat) (b d : List Vs), b.length + d.length ≤ n → (mg b d).Perm (b ++ d)
  | n, [], d, _ => by rw [mg_nil]; simp
  | n, x :: b, [], _ => by rw [mg_nil2]; simp
  | 0, x :: b, y :: d, h => by simp at h
  | n + 1, x :: b, y :: d, h => by
    simp only [List.length_cons] at h
    by_cases hq : ltv y x
    · rw [mg_right hq]
      have := mg_perm n (x :: b) d (by simp only [List.length_cons]; omega)
      exact (this.cons y).trans List.perm_middle.symm
    · rw [mg_left hq]
      have := mg_perm n b (y :: d) (by simp only [List.length_cons]; omega)
      exact this.cons x
theorem mg_perm' (b d : List Vs) : (mg b d).Perm (b ++ d) := mg_perm _ b d (Nat.le_refl _)
theorem mg_len (b d : List Vs) : (mg b d).length = b.length + d.length := by rw [(mg_perm' b d).length_eq, List.length_append]
theorem mg_mem {b d : List Vs} {v : Vs} : v ∈ mg b d ↔ v ∈ b ∨ v ∈ d := by rw [(mg_perm' b d).mem_iff, List.mem_append]
theorem ltv_tot {a b : Vs} (hs : ¬ a.seq = b.seq) (h : ¬ ltv a b) : ltv b a := by
  unfold ltv at h ⊢
  rcases tri a.key b.key with q | q | q
  · exact absurd (.inl q) h
  · refine .inr ⟨q.symm, ?_⟩
    rcases Int.lt_or_le b.seq a.seq with z | z
    · exact z
    · exact absurd (.inr ⟨q, by omega⟩) h
  · exact .inl q
/-- laid together they stand in order -/
theorem mg_srt : ∀ (n : Nat) (b d : List Vs), b.length + d.length ≤ n → SrtV b → SrtV d → (∀ x ∈ b, ∀ y ∈ d, ¬ x.seq = y.seq) → SrtV (mg b d)
  | n, [], d, _, _, h2, _ => by rw [mg_nil]; exact h2
  | n, x :: b, [], _, h1, _, _ => by rw [mg_nil2]; exact h1
  | 0, x :: b, y :: d, h, _, _, _ => by simp at h
  | n + 1, x :: b, y :: d, h, h1, h2, h3 => by
    simp only [List.length_cons] at h
    have e1 : (∀ a ∈ b, ltv x a) ∧ SrtV b := List.pairwise_cons.1 h1
    have e2 : (∀ a ∈ d, ltv y a) ∧ SrtV d := List.pairwise_cons.1 h2
    by_cases hq : ltv y x
    · rw [mg_right hq]
      refine List.pairwise_cons.2 ⟨fun a ha => ?_, mg_srt n (x :: b) d (by simp only [List.length_cons]; omega) h1 e2.2 (fun u hu v hv => h3 u hu v (List.mem_cons_of_mem _ hv))⟩
      rcases mg_mem.1 ha with q | q
      · rcases List.mem_cons.1 q with rfl | q
        · exact hq
        · exact ltv_trans hq (e1.1 a q)
      · exact e2.1 a q
    · rw [mg_left hq]
      have hxy : ltv x y := ltv_tot (fun e => h3 x List.mem_cons_self y List.mem_cons_self e.symm) hq
      refine List.pairwise_cons.2 ⟨fun a ha => ?_, mg_srt n b (y :: d) (by simp only [List.length_cons]; omega) e1.2 h2 (fun u hu v hv => h3 u (List.mem_cons_of_mem _ hu) v hv)⟩
      rcases mg_mem.1 ha with q | q
      · exact e1.1 a q
      · rcases List.mem_cons.1 q with rfl | q
        · exact hxy
        · exact ltv_trans hxy (e2.1 a q)
/-- a list in order, parted and laid together -/
theorem mg_part (p : Vs → Bool) : ∀ (L : List Vs), SrtV L → mg (L.filter p) (L.filter (fun v => !p v)) = L
  | [], _ => by simp [mg_nil]
  | x :: L, h => by
    have e : (∀ a ∈ L, ltv x a) ∧ SrtV L := List.pairwise_cons.1 h
    have ih := mg_part p L e.2
    by_cases hp : p x = true
    · have f1 : (x :: L).filter p = x :: L.filter p := by simp [hp]
      have f2 : (x :: L).filter (fun v => !p v) = L.filter (fun v => !p v) := by simp [hp]
      rw [f1, f2]
      cases hd : L.filter (fun v => !p v) with
      | nil =>
        rw [hd, mg_nil2] at ih
        rw [mg_nil2, ih]
      | cons y d =>
        have hy : y ∈ L := (List.mem_filter.1 (show y ∈ L.filter (fun v => !p v) by rw [hd]; exact List.mem_cons_self)).1
        rw [mg_left (fun q => ltv_irrefl (ltv_trans q (e.1 y hy))), ← hd, ih]
    · have f1 : (x :: L).filter p = L.filter p := by simp [hp]
      have f2 : (x :: L).filter (fun v => !p v) = x :: L.filter (fun v => !p v) := by simp [hp]
      rw [f1, f2]
      cases hb : L.filter p with
      | nil =>
        rw [hb, mg_nil] at ih
        rw [mg_nil, ih]
      | cons z b =>
        have hz : z ∈ L := (List.mem_filter.1 (show z ∈ L.filter p by rw [hb]; exact List.mem_cons_self)).1
        rw [mg_right (e.1 z hz), ← hb, ih]
theorem mg_back {L : List Vs} (h : SrtV L) (m : Int) : mg (blL m L) (snL m L) = L := by
  have := mg_part (fun v => decide (v.seq < m)) L h
  have e : (fun v : Vs => !decide (v.seq < m)) = (fun v : Vs => decide (m ≤ v.seq)) := by
    funext v
    by_cases q : v.seq < m
    · rw [decide_eq_true q, decide_eq_false (by omega)]; rfl
    · rw [decide_eq_false q, decide_eq_true (by omega)]; rfl
  rw [e] at this
  exact this
theorem bl_bl {L : List Vs} {m n : Int} (h : m ≤ n) : blL m (blL n L) = blL m L := by
  unfold blL
  rw [List.filter_filter]
  congr 1
  funext v
  by_cases q : v.seq < m
  · rw [decide_eq_true q, decide_eq_true (show v.seq < n by omega)]; rfl
  · rw [decide_eq_false q]; rfl
theorem mg_step {L : List Vs} (h : SrtV L) {m n : Int} (hmn : m ≤ n) : mg (blL m L) (snL m (blL n L)) = blL n L := by
  have := mg_back (L := blL n L) (h.sublist List.filter_sublist) m
  rw [bl_bl hmn] at this
  exact this
/-- what is below, and what is from a number on, of the two laid together -/
theorem bl_mg : ∀ (n : Nat) (b d : List Vs) (m : Int), b.length + d.length ≤ n → (∀ v ∈ b, v.seq < m) → (∀ v ∈ d, m ≤ v.seq) → blL m (mg b d) = b
  | n, [], d, m, _, _, h2 => by
    rw [mg_nil]
    unfold blL
    rw [List.filter_eq_nil_iff]
    intro v hv
    have := h2 v hv
    simp only [decide_eq_true_eq]
    omega
  | n, x :: b, [], m, _, h1, _ => by
    rw [mg_nil2]
    unfold blL
    rw [List.filter_eq_self]
    intro v hv
    have := h1 v hv
    simpa using this
  | 0, x :: b, y :: d, m, h, _, _ => by simp at h
  | n + 1, x :: b, y :: d, m, h, h1, h2 => by
    simp only [List.length_cons] at h
    by_cases hq : ltv y x
    · rw [mg_right hq]
      have hy := h2 y List.mem_cons_self
      have e : blL m (y :: mg (x :: b) d) = blL m (mg (x :: b) d) := by
        unfold blL
        rw [List.filter_cons, if_neg (by simp only [decide_eq_true_eq]; omega)]
      rw [e, bl_mg n (x :: b) d m (by simp only [List.length_cons]; omega) h1 (fun v hv => h2 v (List.mem_cons_of_mem _ hv))]
    · rw [mg_left hq]
      have hx := h1 x List.mem_cons_self
      have e : blL m (x :: mg b (y :: d)) = x :: blL m (mg b (y :: d)) := by
        unfold blL
        rw [List.filter_cons, if_pos (by simpa using hx)]
      rw [e, bl_mg n b (y :: d) m (by simp only [List.length_cons]; omega) (fun v hv => h1 v (List.mem_cons_of_mem _ hv)) h2]
theorem sN_perm {a b : List Vs} (h : a.Perm b) : sN a = sN b := (h.map szN).sum_nat
/-- a delta that is right -/
structure RtD (since next : Int) (L : List Vs) : Prop where
  b : RtB next L
  s1 : 1 ≤ since
  s2 : since ≤ next
  s : ∀ v ∈ L, since ≤ v.seq
theorem RtB.bws {next : Int} {L : List Vs} (h : RtB next L) : bw L = (sN L : Int) := bw_eq (fun u hu => (h.ok u hu).2.2) (by have := h.len; omega)
/-- the sizes of two together -/
theorem bw_mg {n1 n2 : Int} {b d : List Vs} (hb : RtB n1 b) (hd : RtB n2 d) (hl : b.length + d.length ≤ 300) : bw (mg b d) = bw b + bw d := by
  have h : ∀ v ∈ mg b d, vrV v = 0 := fun v hv => by
    rcases mg_mem.1 hv with q | q
    · exact (hb.ok v q).2.2
    · exact (hd.ok v q).2.2
  rw [bw_eq h (by rw [mg_len]; omega), hb.bws, hd.bws, sN_perm (mg_perm' b d), sN_append]
  rfl
theorem RtB.laid {since next : Int} {b d : List Vs} (hb : RtB since b) (hd : RtD since next d) (hl : b.length + d.length ≤ 256) (hw : bw b + bw d ≤ 65536) : RtB next (mg b d) := by
  have hne : ∀ x ∈ b, ∀ y ∈ d, ¬ x.seq = y.seq := fun x hx y hy e => by
    have h1 := (hb.ok x hx).2.1
    have h2 := hd.s y hy
    omega
  refine ⟨hd.b.n1, hd.b.n2, by rw [mg_len]; omega, fun v hv => ?_, mg_srt _ b d (Nat.le_refl _) hb.srt hd.b.srt hne, ?_, ?_⟩
  · rcases mg_mem.1 hv with q | q
    · have := hb.ok v q
      exact ⟨this.1, Int.lt_of_lt_of_le this.2.1 hd.s2, this.2.2⟩
    · exact hd.b.ok v q
  · rw [((mg_perm' b d).map (·.seq)).nodup_iff, List.map_append, List.nodup_append]
    refine ⟨hb.nod, hd.b.nod, fun x hx y hy e => ?_⟩
    obtain ⟨u, hu, rfl⟩ := List.mem_map.1 hx
    obtain ⟨v, hv, rfl⟩ := List.mem_map.1 hy
    exact hne u hu v hv e
  · rw [bw_mg hb hd.b (by omega)]
    exact hw
theorem RtB.since {next : Int} {L : List Vs} (h : RtB next L) {m : Int} (h1 : 1 ≤ m) (h2 : m ≤ next) : RtD m next (snL m L) :=
  ⟨h.sub List.filter_sublist, h1, h2, fun v hv => (snL_mem hv).2⟩
theorem RtB.below {next : Int} {L : List Vs} (h : RtB next L) {m : Int} (h1 : 1 ≤ m) (h2 : m ≤ next) : RtB m (blL m L) := by
  have h0 := h.sub (M := blL m L) List.filter_sublist
  exact ⟨h1, Int.le_trans h2 h.n2, h0.len, fun v hv => ⟨(h.ok v (blL_mem hv).1).1, (blL_mem hv).2, (h.ok v (blL_mem hv).1).2.2⟩, h0.srt, h0.nod, h0.byt⟩
theorem part_len (m : Int) (L : List Vs) : (blL m L).length + (snL m L).length = L.length := by
  induction L with
  | nil => rfl
  | cons v t ih =>
    unfold blL snL at ih ⊢
    by_cases q : v.seq < m
    · rw [List.filter_cons_of_pos (by simpa using q), List.filter_cons_of_neg (by simp only [decide_eq_true_eq]; omega), List.length_cons, List.length_cons]; omega
    · rw [List.filter_cons_of_neg (by simpa using q), List.filter_cons_of_pos (by simp only [decide_eq_true_eq]; omega), List.length_cons, List.length_cons]; omega
theorem part_bw {next : Int} {L : List Vs} (h : RtB next L) (m : Int) : bw (blL m L) + bw (snL m L) = bw L := by
  have h1 : RtB next (blL m L) := h.sub List.filter_sublist
  have h2 : RtB next (snL m L) := h.sub List.filter_sublist
  rw [← bw_mg h1 h2 (by have := part_len m L; have := h.len; omega), mg_back h.srt]
end Go.Proofs.Ytaibbeepgelepaa
