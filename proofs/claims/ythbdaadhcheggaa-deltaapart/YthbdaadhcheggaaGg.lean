import Derived.Test.YthbdaadhcheggaaRtm
import Derived.Test.YthbdaadhcheggaaCct
/- A delta's lists: what is from a number on, what is below it, two lists laid together. No model here. -/
namespace Go.Proofs.Ythbdaadhcheggaa
set_option linter.unusedVariables false
set_option linter.unusedSimpArgs false
/-- those from a number on -/
def snL (m : Int) (L : List Vs) : List Vs := L.filter (fun v => decide (m ≤ v.seq))
/-- those below it -/
def blL (m : Int) (L : List Vs) : List Vs := L.filter (fun v => decide (v.seq < m))
theorem snL_nil (m : Int) : snL m [] = [] := rfl
theorem blL_nil (m : Int) : blL m [] = [] := rfl
theorem fil_step {p : Vs → Bool} {L : List Vs} {k : Nat} {u : Vs} (h : L[k]? = some u) : (L.take (k + 1)).filter p = if p u = true then (L.take k).filter p ++ [u] else (L.take k).filter p := by
  rw [takeV h, List.filter_append]
  by_cases hp : p u = true
  · rw [if_pos hp]; simp [hp]
  · rw [if_neg hp]; simp [hp]
theorem snL_yes {m : Int} {L : List Vs} {k : Nat} {u : Vs} (h : L[k]? = some u) (hu : m ≤ u.seq) : snL m (L.take (k + 1)) = snL m (L.take k) ++ [u] := by
  unfold snL; rw [fil_step h, if_pos (by simpa using hu)]
theorem snL_no {m : Int} {L : List Vs} {k : Nat} {u : Vs} (h : L[k]? = some u) (hu : ¬ m ≤ u.seq) : snL m (L.take (k + 1)) = snL m (L.take k) := by
  unfold snL; rw [fil_step h, if_neg (by simpa using hu)]
theorem blL_yes {m : Int} {L : List Vs} {k : Nat} {u : Vs} (h : L[k]? = some u) (hu : u.seq < m) : blL m (L.take (k + 1)) = blL m (L.take k) ++ [u] := by
  unfold blL; rw [fil_step h, if_pos (by simpa using hu)]
theorem blL_no {m : Int} {L : List Vs} {k : Nat} {u : Vs} (h : L[k]? = some u) (hu : ¬ u.seq < m) : blL m (L.take (k + 1)) = blL m (L.take k) := by
  unfold blL; rw [fil_step h, if_neg (by simpa using hu)]
theorem snL_len (m : Int) (L : List Vs) : (snL m L).length ≤ L.length := List.length_filter_le _ _
theorem blL_len (m : Int) (L : List Vs) : (blL m L).length ≤ L.length := List.length_filter_le _ _
theorem snL_mem {m : Int} {L : List Vs} {v : Vs} (h : v ∈ snL m L) : v ∈ L ∧ m ≤ v.seq := by
  have := List.mem_filter.1 h
  exact ⟨this.1, by simpa using this.2⟩
theorem blL_mem {m : Int} {L : List Vs} {v : Vs} (h : v ∈ blL m L) : v ∈ L ∧ v.seq < m := by
  have := List.mem_filter.1 h
  exact ⟨this.1, by simpa using this.2⟩
/-- two lists laid together: where neither goes ahead the first one's does -/
def mg : List Vs → List Vs → List Vs
  | [], d => d
  | x :: b, [] => x :: b
  | x :: b, y :: d => if ltv y x then y :: mg (x :: b) d else x :: mg b (y :: d)
termination_by b d => b.length + d.length
theorem mg_nil (d : List Vs) : mg [] d = d := by unfold mg; rfl
theorem mg_nil2 (b : List Vs) : mg b [] = b := by
  cases b with
  | nil => unfold mg; rfl
  | cons x b => unfold mg; rfl
theorem mg_right {x y : Vs} {b d : List Vs} (h : ltv y x) : mg (x :: b) (y :: d) = y :: mg (x :: b) d := by
  rw [mg, if_pos h]
theorem mg_left {x y : Vs} {b d : List Vs} (h : ¬ ltv y x) : mg (x :: b) (y :: d) = x :: mg b (y :: d) := by
  rw [mg, if_neg h]
theorem mg_perm : ∀ (n : Nat) (b d : List Vs), b.length + d.length ≤ n → (mg b d).Perm (b ++ d)
  | n, [], d, _ => by rw [mg_nil]; simp
  | n, x :: b, [], _ => by rw [mg_nil2]; simp
  | 0, x :: b, y :: d, h => by simp at h
  | n + 1, x :: b, y :: d, h => by
    simp only [List.length_cons] at h
    by_cases hq : ltv y x
    · rw [mg_right hq]
      have := mg_perm n (x :: b) d (by simp only [List.length_cons]; omega)
      exact (this.cons y).trans List.perm_middle.symm
    · rw [mg_left hq]
      have := mg_perm n b (y :: d) (by simp only [List.length_cons]; omega)
      exact this.cons x
theorem mg_perm' (b d : List Vs) : (mg b d).Perm (b ++ d) := mg_perm _ b d (Nat.le_refl _)
theorem mg_len (b d : List Vs) : (mg b d).length = b.length + d.length := by rw [(mg_perm' b d).length_eq, List.length_append]
theorem mg_mem {b d : List Vs} {v : Vs} : v ∈ mg b d ↔ v ∈ b ∨ v ∈ d := by rw [(mg_perm' b d).mem_iff, List.mem_append]
theorem ltv_tot {a b : Vs} (hs : ¬ a.seq = b.seq) (h : ¬ ltv a b) : ltv b a := by
  unfold ltv at h ⊢
  rcases tri a.key b.key with q | q | q
  · exact absurd (.inl q) h
  · refine .inr ⟨q.symm, ?_⟩
    rcases Int.lt_or_le b.seq a.seq with z | z
    · exact z
    · exact absurd (.inr ⟨q, by omega⟩) h
  · exact .inl q
/-- laid together they stand in order -/
theorem mg_srt : ∀ (n : Nat) (b d : List Vs), b.length + d.length ≤ n → SrtV b → SrtV d → (∀ x ∈ b, ∀ y ∈ d, ¬ x.seq = y.seq) → SrtV (mg b d)
  | n, [], d, _, _, h2, _ => by rw [mg_nil]; exact h2
  | n, x :: b, [], _, h1, _, _ => by rw [mg_nil2]; exact h1
  | 0, x :: b, y :: d, h, _, _, _ => by simp at h
  | n + 1, x :: b, y :: d, h, h1, h2, h3 => by
    simp only [List.length_cons] at h
    have e1 : (∀ a ∈ b, ltv x a) ∧ SrtV b := List.pairwise_cons.1 h1
    have e2 : (∀ a ∈ d, ltv y a) ∧ SrtV d := List.pairwise_cons.1 h2
    by_cases hq : ltv y x
    · rw [mg_right hq]
      refine List.pairwise_cons.2 ⟨fun a ha => ?_, mg_srt n (x :: b) d (by simp only [List.length_cons]; omega) h1 e2.2 (fun u hu v hv => h3 u hu v (List.mem_cons_of_mem _ hv))⟩
      rcases mg_mem.1 ha with q | q
      · rcases List.mem_cons.1 q with rfl | q
        · exact hq
        · exact ltv_trans hq (e1.1 a q)
      · exact e2.1 a q
    · rw [mg_left hq]
      have hxy : ltv x y := ltv_tot (fun e => h3 x List.mem_cons_self y List.mem_cons_self e.symm) hq
      refine List.pairwise_cons.2 ⟨fun a ha => ?_, mg_srt n b (y :: d) (by simp only [List.length_cons]; omega) e1.2 h2 (fun u hu v hv => h3 u (List.mem_cons_of_mem _ hu) v hv)⟩
      rcases mg_mem.1 ha with q | q
      · exact e1.1 a q
      · rcases List.mem_cons.1 q with rfl | q
        · exact hxy
        · exact ltv_trans hxy (e2.1 a q)
/-- a list in order, parted and laid together -/
theorem mg_part (p : Vs → Bool) : ∀ (L : List Vs), SrtV L → mg (L.filter p) (L.filter (fun v => !p v)) = L
  | [], _ => by simp [mg_nil]
  | x :: L, h => by
    have e : (∀ a ∈ L, ltv x a) ∧ SrtV L := List.pairwise_cons.1 h
    have ih := mg_part p L e.2
    by_cases hp : p x = true
    · have f1 : (x :: L).filter p = x :: L.filter p := by simp [hp]
      have f2 : (x :: L).filter (fun v => !p v) = L.filter (fun v => !p v) := by simp [hp]
      rw [f1, f2]
      cases hd : L.filter (fun v => !p v) with
      | nil =>
        rw [hd, mg_nil2] at ih
        rw [mg_nil2, ih]
      | cons y d =>
        have hy : y ∈ L := (List.mem_filter.1 (show y ∈ L.filter (fun v => !p v) by rw [hd]; exact List.mem_cons_self)).1
        rw [mg_left (fun q => ltv_irrefl (ltv_trans q (e.1 y hy))), ← hd, ih]
    · have f1 : (x :: L).filter p = L.filter p := by simp [hp]
      have f2 : (x :: L).filter (fun v => !p v) = x :: L.filter (fun v => !p v) := by simp [hp]
      rw [f1, f2]
      cases hb : L.filter p with
      | nil =>
        rw [hb, mg_nil] at ih
        rw [mg_nil, ih]
      | cons z b =>
        have hz : z ∈ L := (List.mem_filter.1 (show z ∈ L.filter p by rw [hb]; exact List.mem_cons_self)).1
        rw [mg_right (e.1 z hz), ← hb, ih]
theorem mg_back {L : List Vs} (h : SrtV L) (m : Int) : mg (blL m L) (snL m L) = L := by
  have := mg_part (fun v => decide (v.seq < m)) L h
  have e : (fun v : Vs => !decide (v.seq < m)) = (fun v : Vs => decide (m ≤ v.seq)) := by
    funext v
    by_cases q : v.seq < m
    · rw [decide_eq_true q, decide_eq_false (by omega)]; rfl
    · rw [decide_eq_false q, decide_eq_true (by omega)]; rfl
  rw [e] at this
  exact this
theorem bl_bl {L : List Vs} {m n : Int} (h : m ≤ n) : blL m (blL n L) = blL m L := by
  unfold blL
  rw [List.filter_filter]
  congr 1
  funext v
  by_cases q : v.seq < m
  · rw [decide_eq_true q, decide_eq_true (show v.seq < n by omega)]; rfl
  · rw [decide_eq_false q]; rfl
theorem mg_step {L : List Vs} (h : SrtV L) {m n : Int} (hmn : m ≤ n) : mg (blL m L) (snL m (blL n L)) = blL n L := by
  have := mg_back (L := blL n L) (h.sublist List.filter_sublist) m
  rw [bl_bl hmn] at this
  exact this
/-- what is below, and what is from a number on, of the two laid together -/
theorem bl_mg : ∀ (n : Nat) (b d : List Vs) (m : Int), b.length + d.length ≤ n → (∀ v ∈ b, v.seq < m) → (∀ v ∈ d, m ≤ v.seq) → blL m (mg b d) = b
  | n, [], d, m, _, _, h2 => by
    rw [mg_nil]
    unfold blL
    rw [List.filter_eq_nil_iff]
    intro v hv
    have := h2 v hv
    simp only [decide_eq_true_eq]
    omega
  | n, x :: b, [], m, _, h1, _ => by
    rw [mg_nil2]
    unfold blL
    rw [List.filter_eq_self]
    intro v hv
    have := h1 v hv
    simpa using this
  | 0, x :: b, y :: d, m, h, _, _ => by simp at h
  | n + 1, x :: b, y :: d, m, h, h1, h2 => by
    simp only [List.length_cons] at h
    by_cases hq : ltv y x
    · rw [mg_right hq]
      have hy := h2 y List.mem_cons_self
      have e : blL m (y :: mg (x :: b) d) = blL m (mg (x :: b) d) := by
        unfold blL
        rw [List.filter_cons, if_neg (by simp only [decide_eq_true_eq]; omega)]
      rw [e, bl_mg n (x :: b) d m (by simp only [List.length_cons]; omega) h1 (fun v hv => h2 v (List.mem_cons_of_mem _ hv))]
    · rw [mg_left hq]
      have hx := h1 x List.mem_cons_self
      have e : blL m (x :: mg b (y :: d)) = x :: blL m (mg b (y :: d)) := by
        unfold blL
        rw [List.filter_cons, if_pos (by simpa using hx)]
      rw [e, bl_mg n b (y :: d) m (by simp only [List.length_cons]; omega) (fun v hv => h1 v (List.mem_cons_of_mem _ hv)) h2]
theorem sN_perm {a b : List Vs} (h : a.Perm b) : sN a = sN b := (h.map szN).sum_nat
/-- a delta that is right -/
structure RtD (since next : Int) (L : List Vs) : Prop where
  b : RtB next L
  s1 : 1 ≤ since
  s2 : since ≤ next
  s : ∀ v ∈ L, since ≤ v.seq
theorem RtB.bws {next : Int} {L : List Vs} (h : RtB next L) : bw L = (sN L : Int) := bw_eq (fun u hu => (h.ok u hu).2.2) (by have := h.len; omega)
/-- the sizes of two together -/
theorem bw_mg {n1 n2 : Int} {b d : List Vs} (hb : RtB n1 b) (hd : RtB n2 d) (hl : b.length + d.length ≤ 300) : bw (mg b d) = bw b + bw d := by
  have h : ∀ v ∈ mg b d, vrV v = 0 := fun v hv => by
    rcases mg_mem.1 hv with q | q
    · exact (hb.ok v q).2.2
    · exact (hd.ok v q).2.2
  rw [bw_eq h (by rw [mg_len]; omega), hb.bws, hd.bws, sN_perm (mg_perm' b d), sN_append]
  rfl
theorem RtB.laid {since next : Int} {b d : List Vs} (hb : RtB since b) (hd : RtD since next d) (hl : b.length + d.length ≤ 256) (hw : bw b + bw d ≤ 65536) : RtB next (mg b d) := by
  have hne : ∀ x ∈ b, ∀ y ∈ d, ¬ x.seq = y.seq := fun x hx y hy e => by
    have h1 := (hb.ok x hx).2.1
    have h2 := hd.s y hy
    omega
  refine ⟨hd.b.n1, hd.b.n2, by rw [mg_len]; omega, fun v hv => ?_, mg_srt _ b d (Nat.le_refl _) hb.srt hd.b.srt hne, ?_, ?_⟩
  · rcases mg_mem.1 hv with q | q
    · have := hb.ok v q
      exact ⟨this.1, Int.lt_of_lt_of_le this.2.1 hd.s2, this.2.2⟩
    · exact hd.b.ok v q
  · rw [((mg_perm' b d).map (·.seq)).nodup_iff, List.map_append, List.nodup_append]
    refine ⟨hb.nod, hd.b.nod, fun x hx y hy e => ?_⟩
    obtain ⟨u, hu, rfl⟩ := List.mem_map.1 hx
    obtain ⟨v, hv, rfl⟩ := List.mem_map.1 hy
    exact hne u hu v hv e
  · rw [bw_mg hb hd.b (by omega)]
    exact hw
theorem RtB.since {next : Int} {L : List Vs} (h : RtB next L) {m : Int} (h1 : 1 ≤ m) (h2 : m ≤ next) : RtD m next (snL m L) :=
  ⟨h.sub List.filter_sublist, h1, h2, fun v hv => (snL_mem hv).2⟩
theorem RtB.below {next : Int} {L : List Vs} (h : RtB next L) {m : Int} (h1 : 1 ≤ m) (h2 : m ≤ next) : RtB m (blL m L) := by
  have h0 := h.sub (M := blL m L) List.filter_sublist
  exact ⟨h1, Int.le_trans h2 h.n2, h0.len, fun v hv => ⟨(h.ok v (blL_mem hv).1).1, (blL_mem hv).2, (h.ok v (blL_mem hv).1).2.2⟩, h0.srt, h0.nod, h0.byt⟩
theorem part_len (m : Int) (L : List Vs) : (blL m L).length + (snL m L).length = L.length := by
  induction L with
  | nil => rfl
  | cons v t ih =>
    unfold blL snL at ih ⊢
    by_cases q : v.seq < m
    · rw [List.filter_cons_of_pos (by simpa using q), List.filter_cons_of_neg (by simp only [decide_eq_true_eq]; omega), List.length_cons, List.length_cons]; omega
    · rw [List.filter_cons_of_neg (by simpa using q), List.filter_cons_of_pos (by simp only [decide_eq_true_eq]; omega), List.length_cons, List.length_cons]; omega
theorem part_bw {next : Int} {L : List Vs} (h : RtB next L) (m : Int) : bw (blL m L) + bw (snL m L) = bw L := by
  have h1 : RtB next (blL m L) := h.sub List.filter_sublist
  have h2 : RtB next (snL m L) := h.sub List.filter_sublist
  rw [← bw_mg h1 h2 (by have := part_len m L; have := h.len; omega), mg_back h.srt]
end Go.Proofs.Ythbdaadhcheggaa

/- Rows of versions whose pairs are another's, and how they get pairs of their own. -/
namespace Go.Proofs.Ythbdaadhcheggaa
set_option linter.unusedVariables false
set_option linter.unusedSimpArgs false
open Go.RowKit
/-- the versions that a slice holds, with where their pairs lie -/
structure RIn (w : World) (a : Option Addr) (R : List Rv) : Prop where
  get : ∀ (k : Nat) (r : Rv), R[k]? = some r → ∃ b off, a = some ⟨b, off, none⟩ ∧ b < w.heap.size ∧ w.cell? ⟨b, off + k * 5, none⟩ = some (str r.v.key) ∧ w.cell? ⟨b, off + k * 5 + 1, none⟩ = some (.int .i64 r.v.seq) ∧ w.cell? ⟨b, off + k * 5 + 2, none⟩ = some (.bool r.v.mkr) ∧ w.cell? ⟨b, off + k * 5 + 3, none⟩ = some (str r.v.data) ∧ w.cell? ⟨b, off + k * 5 + 4, none⟩ = some (.slice r.a r.v.l.length r.c)
theorem RIn.later {w w' : World} {a : Option Addr} {R : List Rv} (h : RIn w a R) (hb : Below w.heap.size w w') : RIn w' a R := by
  refine ⟨fun k v hk => ?_⟩
  obtain ⟨b, off, h1, h2, c0, c1, c2, c3, c4⟩ := h.get k v hk
  exact ⟨b, off, h1, Nat.lt_of_lt_of_le h2 hb.size, (hb.cell (p := ⟨b, _, none⟩) h2).trans c0, (hb.cell (p := ⟨b, _, none⟩) h2).trans c1, (hb.cell (p := ⟨b, _, none⟩) h2).trans c2, (hb.cell (p := ⟨b, _, none⟩) h2).trans c3, (hb.cell (p := ⟨b, _, none⟩) h2).trans c4⟩
/-- their pairs lie there -/
def Sh (w : World) (R : List Rv) : Prop := ∀ r ∈ R, Sl w r.a r.c r.v.l ∧ r.v.l.length ≤ 4398046510976
theorem li_rows {w : World} {L : List Vs} {a : Option Addr} {n c : Nat} (h : Li w L a n c) : ∃ R : List Rv, R.map (·.v) = L ∧ RIn w a R ∧ Sh w R := by
  have H : ∀ k : Nat, ∃ r : Rv, ∀ v, L[k]? = some v → r.v = v ∧ (∃ b off, a = some ⟨b, off, none⟩ ∧ b < w.heap.size ∧ w.cell? ⟨b, off + k * 5, none⟩ = some (str r.v.key) ∧ w.cell? ⟨b, off + k * 5 + 1, none⟩ = some (.int .i64 r.v.seq) ∧ w.cell? ⟨b, off + k * 5 + 2, none⟩ = some (.bool r.v.mkr) ∧ w.cell? ⟨b, off + k * 5 + 3, none⟩ = some (str r.v.data) ∧ w.cell? ⟨b, off + k * 5 + 4, none⟩ = some (.slice r.a r.v.l.length r.c)) ∧ Sl w r.a r.c r.v.l := fun k => by
    cases hq : L[k]? with
    | none => exact ⟨⟨⟨[], 0, false, [], []⟩, [], none, 0⟩, fun v hv => by cases hv⟩
    | some u =>
      obtain ⟨b, off, ma, mc, h1, h2, c0, c1, c2, c3, c4, s⟩ := h.s.at'.get k u hq
      refine ⟨⟨u, [], ma, mc⟩, fun v hv => ?_⟩
      injection hv with hv
      subst hv
      exact ⟨rfl, ⟨b, off, h1, h2, c0, c1, c2, c3, c4⟩, s⟩
  have hget : ∀ (k : Nat) (r : Rv), ((List.range L.length).map (fun k => Classical.choose (H k)))[k]? = some r → k < L.length ∧ r = Classical.choose (H k) := fun k r hk => by
    have hl := (List.getElem?_eq_some_iff.1 hk).1
    rw [List.length_map, List.length_range] at hl
    rw [List.getElem?_map, List.getElem?_range hl] at hk
    simp at hk
    exact ⟨hl, hk.symm⟩
  have hspec : ∀ (k : Nat) (hk : k < L.length), _ := fun k hk => Classical.choose_spec (H k) L[k] (List.getElem?_eq_getElem hk)
  refine ⟨(List.range L.length).map (fun k => Classical.choose (H k)), ?_, ⟨fun k r hk => ?_⟩, fun r hr => ?_⟩
  · apply List.ext_getElem?
    intro k
    by_cases hk : k < L.length
    · rw [List.map_map, List.getElem?_map, List.getElem?_range hk, List.getElem?_eq_getElem hk]
      simp only [Option.map_some, Function.comp]
      rw [(hspec k hk).1]
    · rw [List.getElem?_eq_none (by simp; omega), List.getElem?_eq_none (by omega)]
  · obtain ⟨hl, rfl⟩ := hget k r hk
    exact (hspec k hl).2.1
  · obtain ⟨k, hk⟩ := List.mem_iff_getElem?.1 hr
    obtain ⟨hl, rfl⟩ := hget k r hk
    refine ⟨(hspec k hl).2.2, ?_⟩
    rw [(hspec k hl).1]
    exact h.z _ (List.getElem_mem hl)
theorem RIn.cells {w : World} {ad : Addr} {R : List Rv} (h : RIn w (some ad) R) : ∀ j u, (rcells R)[j]? = some u → w.cell? (ad.add j) = some u := fun j u hj => by
  have hl := rcells_length R
  have hlt := (List.getElem?_eq_some_iff.1 hj).1
  have e : j = j / 5 * 5 + j % 5 := by omega
  have hm : j % 5 < 5 := Nat.mod_lt _ (by omega)
  obtain ⟨r, hr⟩ : ∃ r, R[j / 5]? = some r := ⟨R[j / 5]'(by omega), List.getElem?_eq_getElem (by omega)⟩
  obtain ⟨b, off, h1, h2, c0, c1, c2, c3, c4⟩ := h.get _ r hr
  injection h1 with h1
  subst h1
  rw [e, rcells_get hr _ hm] at hj
  rw [addr_add, e]
  generalize j / 5 = q at *
  generalize j % 5 = t at *
  clear e hl hlt
  rcases t with _ | _ | _ | _ | _ | t
  · simp [rcs] at hj; subst hj; exact c0
  · simp [rcs] at hj; subst hj; rw [← Nat.add_assoc]; exact c1
  · simp [rcs] at hj; subst hj; rw [← Nat.add_assoc]; exact c2
  · simp [rcs] at hj; subst hj; rw [← Nat.add_assoc]; exact c3
  · simp [rcs] at hj; subst hj; rw [← Nat.add_assoc]; exact c4
  · omega
/-- a list laid behind a row -/
theorem run_rol {W : World} {base : Nat} {v : Value} {R R2 : List Rv} (ty : TypeId) {ad : Option Addr} {n c : Nat} (f1 : Ro base W v R) (k1 : RIn W ad R2) (hn2 : n = R2.length) (hc : ad = none → c = 0) (hn : R.length + R2.length ≤ 1954687338260) :
    ∃ v' w', (Builtin.append_ #[22, 22] ty #[v, .slice ad n c]).run Try.prog W = .ok v' w' ∧ Ro base w' v' (R ++ R2) ∧ Below base W w' := by
  obtain ⟨i0, hi0, hz0, hz1, hz2⟩ := infoV
  have hmx : maxLen = 9223372036854775807 := rfl
  subst hn2
  cases ad with
  | none =>
    have hq : R2 = [] := by
      cases R2 with
      | nil => rfl
      | cons r t => obtain ⟨b, off, e, _⟩ := k1.get 0 r rfl; cases e
    subst hq
    rw [hc rfl]
    exact ⟨v, W, run_append_owned_none (P := Try.prog) W base 22 ty 41 i0 5 Try.underlying22 hi0 _ R.length (rcells R) f1.own, by simpa using f1, Below.refl _ _⟩
  | some ad =>
    obtain ⟨v', w', hr, hown, hgrow, _⟩ := run_append_own_wide (P := Try.prog) (w := W) base 22 ty 41 i0 _ 5 72 Try.underlying22 hi0 hz0 hz1 hz2 rfl (by omega) v R.length (rcells R) f1.own ad R2.length c (rcells R2) (rcells_length R2) k1.cells (rcells_one R2) (by rw [hmx]; omega) (by omega) f1.le
    refine ⟨v', w', hr, ⟨?_, Nat.le_trans f1.le hgrow.size⟩, grown_below f1.own f1.le hgrow⟩
    rw [rcells_append, List.length_append]; exact hown
theorem rin_one {W : World} {g : Nat} (r : Rv) (h : W.heap[g]? = some (.cells (rcs r).toArray 41 (0, 0))) : RIn W (some ⟨g, 0, none⟩) [r] := ⟨fun k q hk => by
  have hg : g < W.heap.size := (Array.getElem?_eq_some_iff.1 h).1
  have hk0 : k = 0 := by have := (List.getElem?_eq_some_iff.1 hk).1; simp at this; omega
  subst hk0
  simp at hk
  subst hk
  refine ⟨g, 0, rfl, hg, ?_, ?_, ?_, ?_, ?_⟩
  all_goals rw [cell_of_row _ _ _ _ _ _ h]; rfl⟩
/-- one version behind a row -/
theorem run_ro1 {w : World} {base : Nat} {v : Value} {R : List Rv} (ty : TypeId) (r : Rv) (f1 : Ro base w v R) (hn : R.length + 1 ≤ 1954687338260) :
    ∃ v' w', (Builtin.append_ #[22, 22] ty #[v, .slice (some ⟨w.heap.size, 0, none⟩) 1 1]).run Try.prog (w.alloc (.cells #[str r.v.key, .int .i64 r.v.seq, .bool r.v.mkr, str r.v.data, .slice r.a r.v.l.length r.c] 41)) = .ok v' w' ∧ Ro base w' v' (R ++ [r]) ∧ Below base w w' := by
  have b0 := (Below.refl base w).alloc f1.le (.cells (rcs r).toArray 41)
  have f2 : Ro base (w.alloc (.cells (rcs r).toArray 41)) v R := f1.later ((Below.refl w.heap.size w).alloc (Nat.le_refl _) _)
  obtain ⟨v', w', hr, h1, h2⟩ := run_rol ty f2 (rin_one r (heap_alloc_new w (.cells (rcs r).toArray 41))) (n := 1) (c := 1) rfl (fun q => by cases q) (by simpa using hn)
  exact ⟨v', w', hr, h1, b0.trans h2⟩
theorem own_cellX {w : World} {base g cap n s : Nat} {t : TypeId} {xs : List Value} (h : w.ownsRow base t s (.slice (some ⟨g, 0, none⟩) n cap) n xs) (j : Nat) (u : Value) : (w.setCell ⟨g, j, none⟩ u).ownsRow base t s (.slice (some ⟨g, 0, none⟩) n cap) n (xs.set j u) := by
  refine ⟨by rw [List.length_set]; exact h.1, ?_⟩
  rcases h.2 with ⟨e, _⟩ | ⟨g', cap', cur, e, h2, h3, h4, h5, h6, h7⟩
  · cases e
  · injection e with e1 e2 e3
    have e4 := Option.some.inj e1
    have e5 : g = g' := congrArg Addr.block e4
    subst e5 e3
    refine Or.inr ⟨g, cap, _, rfl, h2, heap_setCell_same _ _ _ _ _ _ h3, h4, h5, by rw [Array.size_setIfInBounds]; exact h6, ?_⟩
    rw [Array.toList_setIfInBounds, ← h7, List.take_set]
theorem rcells_consX (q : Rv) (l : List Rv) : rcells (q :: l) = rcs q ++ rcells l := by simp [rcells]
theorem rcells_setX : ∀ (R : List Rv) (k : Nat) (r : Rv) (a : Option Addr) (c : Nat), R[k]? = some r → rcells (R.set k ⟨r.v, [], a, c⟩) = (rcells R).set (k * 5 + 4) (.slice a r.v.l.length c)
  | [], k, r, a, c, h => by simp at h
  | q :: l, 0, r, a, c, h => by
    simp at h
    subst h
    rw [List.set_cons_zero, rcells_consX, rcells_consX]
    simp [rcs]
  | q :: l, k + 1, r, a, c, h => by
    have := rcells_setX l k r a c (by simpa using h)
    rw [List.set_cons_succ, rcells_consX, rcells_consX, this]
    simp [rcs, show (k + 1) * 5 + 4 = k * 5 + 4 + 1 + 1 + 1 + 1 + 1 by omega]
theorem set_getX {R : List Rv} {k j : Nat} {r' q : Rv} (h : (R.set k r')[j]? = some q) : (j = k ∧ q = r') ∨ (¬ j = k ∧ R[j]? = some q) := by
  by_cases e : j = k
  · subst e
    have hl := (List.getElem?_eq_some_iff.1 h).1
    rw [List.getElem?_set_self (by simpa using hl)] at h
    injection h with h
    exact .inl ⟨rfl, h.symm⟩
  · rw [List.getElem?_set_ne (fun q => e q.symm)] at h
    exact .inr ⟨e, h⟩
theorem map_setX {R : List Rv} {k : Nat} {r : Rv} (h : R[k]? = some r) (a : Option Addr) (c : Nat) : (R.set k ⟨r.v, [], a, c⟩).map (·.v) = R.map (·.v) := by
  rw [List.map_set]
  apply List.ext_getElem?
  intro j
  by_cases e : j = k
  · subst e
    have hl := (List.getElem?_eq_some_iff.1 h).1
    rw [List.getElem?_set_self (by simpa using hl), List.getElem?_map, h]
    rfl
  · rw [List.getElem?_set_ne (fun q => e q.symm)]
/-- the first k have pairs of their own -/
structure Tk (w0 w : World) (v : Value) (R : List Rv) (k : Nat) : Prop where
  own : w.ownsRow w0.heap.size 41 5 v R.length (rcells R)
  b : Below w0.heap.size w0 w
  met : ∀ (j : Nat) (r : Rv), j < k → R[j]? = some r → r.z = [] ∧ Ow w0.heap.size w r.mv r.v.l
  par : ∀ (i j : Nat) (r r' : Rv), i < k → j < k → ¬ i = j → R[i]? = some r → R[j]? = some r' → ∀ b, r.mv.ownBlock = some b → r'.mv.ownBlock ≠ some b
  sh : ∀ (j : Nat) (r : Rv), k ≤ j → R[j]? = some r → Sl w0 r.a r.c r.v.l ∧ r.v.l.length ≤ 4398046510976
theorem Tk.start {w0 w : World} {v : Value} {R : List Rv} (h : Ro w0.heap.size w v R) (hb : Below w0.heap.size w0 w) (hs : Sh w0 R) : Tk w0 w v R 0 :=
  ⟨h.own, hb, fun j r hj => by omega, fun i j r r' hi => by omega, fun j r _ hr => hs r (List.mem_of_getElem? hr)⟩
theorem Tk.step {w0 w w1 : World} {g n cap : Nat} {R : List Rv} {k : Nat} {r : Rv} {a5 : Option Addr} {c5 : Nat} (h : Tk w0 w (.slice (some ⟨g, 0, none⟩) n cap) R k) (hn : n = R.length) (hr : R[k]? = some r) (hb : Below w.heap.size w w1) (ho : Ow w.heap.size w1 (.slice a5 r.v.l.length c5) r.v.l) :
    Tk w0 (w1.setCell ⟨g, k * 5 + 4, none⟩ (.slice a5 r.v.l.length c5)) (.slice (some ⟨g, 0, none⟩) n cap) (R.set k ⟨r.v, [], a5, c5⟩) (k + 1) := by
  subst hn
  have hg0 : w0.heap.size ≤ g := (h.own.lt g rfl).1
  have o1 : w1.ownsRow w0.heap.size 41 5 (.slice (some ⟨g, 0, none⟩) R.length cap) R.length (rcells R) := own_later h.own hb
  have hb1 : Below w0.heap.size w0 w1 := h.b.trans (hb.mono h.b.size)
  have hle : w0.heap.size ≤ w.heap.size := h.b.size
  have hnew : (⟨r.v, [], a5, c5⟩ : Rv).mv = .slice a5 r.v.l.length c5 := by unfold Rv.mv; simp
  have ho' : Ow w0.heap.size w1 (.slice a5 r.v.l.length c5) r.v.l := ho.base hle
  refine ⟨?_, hb1.setCell (p := ⟨g, _, none⟩) hg0 _, fun j q hj hq => ?_, fun i j q q' hi hj hij hq hq' b hb2 hb3 => ?_, fun j q hj hq => ?_⟩
  · rw [List.length_set, rcells_setX R k r a5 c5 hr]
    exact own_cellX o1 _ _
  · rcases set_getX hq with ⟨rfl, rfl⟩ | ⟨hne, hq⟩
    · refine ⟨rfl, ?_⟩
      rw [hnew]
      exact ho'.other (own_apart o1 ho'.own (by decide) rfl) _
    · obtain ⟨z, o⟩ := h.met j q (by omega) hq
      have o2 := o.later hb
      exact ⟨z, o2.other (own_apart o1 o2.own (by decide) rfl) _⟩
  · rcases set_getX hq with ⟨rfl, rfl⟩ | ⟨hne, hq1⟩
    · rcases set_getX hq' with ⟨rfl, rfl⟩ | ⟨hne', hq2⟩
      · exact hij rfl
      · rw [hnew] at hb2
        have h1 := (ho.own.lt b hb2).1
        have h2 := ((h.met j q' (by omega) hq2).2.own.lt b hb3).2
        omega
    · rcases set_getX hq' with ⟨rfl, rfl⟩ | ⟨hne', hq2⟩
      · rw [hnew] at hb3
        have h1 := (ho.own.lt b hb3).1
        have h2 := ((h.met i q (by omega) hq1).2.own.lt b hb2).2
        omega
      · exact h.par i j q q' (by omega) (by omega) hij hq1 hq2 b hb2 hb3
  · rcases set_getX hq with ⟨rfl, rfl⟩ | ⟨hne, hq⟩
    · omega
    · exact h.sh j q (by omega) hq
theorem Tk.cp {w0 w : World} {v : Value} {R : List Rv} (h : Tk w0 w v R R.length) : Cp w0.heap.size w v (R.map (·.v)) := by
  have hl : ∀ (k : Nat) (r : Rv), R[k]? = some r → k < R.length := fun k r hk => (List.getElem?_eq_some_iff.1 hk).1
  refine ⟨R, ⟨h.own, h.b.size, fun k r hk => ?_, fun j k r r' hjk hj hk => h.par j k r r' (hl j r hj) (hl k r' hk) hjk hj hk⟩, rfl, fun r hr => ?_⟩
  · obtain ⟨z, o⟩ := h.met k r (hl k r hk) hk
    rw [z, List.append_nil]
    exact o
  · obtain ⟨k, hk⟩ := List.mem_iff_getElem?.1 hr
    exact (h.met k r (hl k r hk) hk).1
end Go.Proofs.Ythbdaadhcheggaa
