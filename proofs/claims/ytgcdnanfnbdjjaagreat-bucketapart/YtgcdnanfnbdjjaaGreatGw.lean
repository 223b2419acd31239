import Derived.Test.YtgcdnanfnbdjjaaGreatGv
/- The states in which marked's loops go on. -/
namespace Go.Proofs.YtgcdnanfnbdjjaaGreat
set_option linter.unusedVariables false
set_option linter.unusedSimpArgs false
open Go.RowKit
theorem sl_inj {a a' : Option Addr} {n n' c c' : Nat} (h : Value.slice a n c = Value.slice a' n' c') : a = a' ∧ n = n' ∧ c = c' := by
  injection h with h1 h2 h3
  exact ⟨h1, h2, h3⟩
/-- the pairs of a place up to n are marked -/
def PB (B : List Bt) (i k n : Nat) : Prop := ∀ t r, B[i]? = some t → t.2.2[k]? = some r → ∀ (j : Nat) p, j < n → r.v.l[j]? = some p → p = pp r.v.key
/-- the six rows' values -/
structure Xs where
  a0 : Option Addr
  c0 : Nat
  x1 : Value
  a2 : Option Addr
  c2 : Nat
  x3 : Value
  a4 : Option Addr
  c4 : Nat
  x5 : Value
  nb : Nat
  nx : Nat
  nm : Nat
abbrev bkX (q : Xs) (B W : List Bt) (X Y : List Xt) (M N : List Mt') : List (List Th) := bookL [] (.slice q.a0 q.nb q.c0) q.x1 (.slice q.a2 q.nx q.c2) q.x3 (.slice q.a4 q.nm q.c4) q.x5 B W X Y M N
/-- the buckets' lists are marked up to a place -/
structure LB (w0 w : World) (q : Xs) (W : List Bt) (X Y : List Xt) (M N : List Mt') (i : Nat) : Prop where
  ex : ∃ B, EnvF w0 w (TF (bkX q B W X Y M N)) ∧ B.length = q.nb ∧ (∀ t ∈ B, GB t) ∧ MB B i 0
structure LC (w0 w : World) (q : Xs) (W : List Bt) (X Y : List Xt) (M N : List Mt') (i : Nat) (a : Option Addr) (ln c : Nat) (k n : Nat) : Prop where
  ex : ∃ B nx R, EnvF w0 w (TF (bkX q B W X Y M N)) ∧ B.length = q.nb ∧ (∀ t ∈ B, GB t) ∧ MB B i k ∧ PB B i k n ∧ B[i]? = some (nx, .slice a ln c, R) ∧ R.length = ln
section
variable {w0 w w' : World} {q : Xs} {W : List Bt} {X Y : List Xt} {M N : List Mt'} {i ln c k n : Nat} {a : Option Addr}
theorem LB.bel (h : LB w0 w q W X Y M N i) : Below w0.heap.size w0 w := by
  obtain ⟨B, E, _⟩ := h.ex
  exact E.bel
theorem LC.bel (h : LC w0 w q W X Y M N i a ln c k n) : Below w0.heap.size w0 w := by
  obtain ⟨B, nx, R, E, _⟩ := h.ex
  exact E.bel
theorem LC.later (h : LC w0 w q W X Y M N i a ln c k n) (b : Below w.heap.size w w') : LC w0 w' q W X Y M N i a ln c k n := by
  obtain ⟨B, nx, R, E, h1⟩ := h.ex
  exact ⟨B, nx, R, E.below b, h1⟩
theorem LB.row (h : LB w0 w q W X Y M N i) (hi : i < q.nb) : ∃ g a ln c, q.a0 = some ⟨g, 0, none⟩ ∧ g < w.heap.size ∧ w.cell? ⟨g, i * 2 + 1, none⟩ = some (.slice a ln c) ∧ ln ≤ 1000000 ∧ LC w0 w q W X Y M N i a ln c 0 0 := by
  obtain ⟨B, E, hl, hG, hM⟩ := h.ex
  obtain ⟨t, ht⟩ : ∃ t, B[i]? = some t := ⟨B[i]'(by omega), List.getElem?_eq_getElem (by omega)⟩
  obtain ⟨g, cap, e, hg, _, c1, _⟩ := bk_row E ht
  obtain ⟨nx, v, R⟩ := t
  have hGt := hG _ (List.mem_of_getElem? ht)
  obtain ⟨a, c, ev⟩ := hGt.v
  dsimp only at ev c1
  subst ev
  exact ⟨g, a, R.length, c, (sl_inj e).1, hg, c1, hGt.len, ⟨B, nx, R, E, hl, hG, hM, fun t r _ _ j p hj => by omega, ht, rfl⟩⟩
theorem LC.next (h : LC w0 w q W X Y M N i a ln c ln 0) : LB w0 w q W X Y M N (i + 1) := by
  obtain ⟨B, nx, R, E, hl, hG, hM, hP, ht, hR⟩ := h.ex
  refine ⟨B, E, hl, hG, hM.next fun t h2 => ?_⟩
  rw [ht] at h2
  injection h2 with h2
  subst h2
  exact Nat.le_of_eq hR
theorem LC.place (h : LC w0 w q W X Y M N i a ln c k n) (hk : k < ln) : ∃ g ma mn mc ky, a = some ⟨g, 0, none⟩ ∧ g < w.heap.size ∧ w.cell? ⟨g, k * 5, none⟩ = some (str ky) ∧ w.cell? ⟨g, k * 5 + 4, none⟩ = some (.slice ma mn mc) ∧ (∃ o, w.cell? ⟨g, k * 5 + 1, none⟩ = some o) ∧ (∀ j, w.frozen? ⟨g, j, none⟩ = false) ∧ mn ≤ 4398046510976 ∧
    (n < mn → ∃ mb, ma = some ⟨mb, 0, none⟩ ∧ (∀ j, w.frozen? ⟨mb, j, none⟩ = false) ∧ (∃ o1 o2, w.cell? ⟨mb, n * 2, none⟩ = some o1 ∧ w.cell? ⟨mb, n * 2 + 1, none⟩ = some o2) ∧ LC w0 ((w.setCell ⟨mb, n * 2, none⟩ (str ky)).setCell ⟨mb, n * 2 + 1, none⟩ (str [112])) q W X Y M N i a ln c k (n + 1)) ∧
    (mn ≤ n → LC w0 (w.setCell ⟨g, k * 5 + 1, none⟩ (.int .i64 (num i k))) q W X Y M N i a ln c (k + 1) 0) := by
  obtain ⟨B, nx, R, E, hl, hG, hM, hP, ht, hR⟩ := h.ex
  subst hR
  obtain ⟨r, hr⟩ : ∃ r, R[k]? = some r := ⟨R[k], List.getElem?_eq_getElem hk⟩
  have hGt := hG _ (List.mem_of_getElem? ht)
  have fo := bk_fo E ht
  dsimp only at fo
  have hx : (rcells R).length = R.length * 5 := rcells_length R
  obtain ⟨g, cap, e, hg, hc, hf⟩ := own_row fo.own (by omega)
  obtain ⟨rfl, -, rfl⟩ := sl_inj e
  have hcl : ∀ j, j < 5 → w.cell? ⟨g, k * 5 + j, none⟩ = (rcs r)[j]? := fun j hj => by rw [hc _ (by omega), rcells_get hr j hj]
  have hz := hGt.z r (List.mem_of_getElem? hr)
  have hm := fo.met k r hr
  rw [hz, List.append_nil] at hm
  refine ⟨g, r.a, r.v.l.length, r.c, r.v.key, rfl, hg, hcl 0 (by omega), hcl 4 (by omega), ⟨_, hcl 1 (by omega)⟩, hf, hGt.l r (List.mem_of_getElem? hr), fun hn => ?_, fun hn => ?_⟩
  · have hpl : (pcells r.v.l).length = r.v.l.length * 2 := pcells_length _
    obtain ⟨mb, mcap, e2, hg2, hc2, hf2⟩ := own_row hm.own (by omega)
    have e3 : r.mv = .slice r.a (r.v.l.length + r.z.length) r.c := rfl
    rw [e3] at e2
    have ha := (sl_inj e2).1
    refine ⟨mb, ha, hf2, ⟨_, _, by rw [hc2 _ (by omega)]; exact List.getElem?_eq_getElem (by omega), by rw [hc2 _ (by omega)]; exact List.getElem?_eq_getElem (by omega)⟩, ?_⟩
    refine ⟨_, nx, _, bk_pair E ht hr hz ha hn (pp r.v.key), by simpa using hl, fun t h2 => ?_, hM.pair ht hr _, fun t r2 h1 h2 j p hj hp => ?_, getSet ht, by simp⟩
    · rcases setM h2 with rfl | h2
      · exact hGt.setR hr rfl (by simp)
      · exact hG t h2
    · rcases setG h1 with ⟨_, rfl⟩ | ⟨q1, _⟩
      · have h2 : (R.set k _)[k]? = some r2 := h2
        rw [getSet hr] at h2
        injection h2 with h2
        subst h2
        dsimp only at hp ⊢
        rcases setG hp with ⟨_, rfl⟩ | ⟨q2, hp⟩
        · rfl
        · exact hP _ r ht hr j p (by omega) hp
      · exact absurd rfl q1
  · refine ⟨_, nx, _, bk_seq E ht rfl hr (num i k), by simpa using hl, fun t h2 => ?_, hM.mark ht hr _ ⟨rfl, fun p hp => ?_⟩, fun t r2 h1 h2 j p hj hp => by omega, getSet ht, by simp⟩
    · rcases setM h2 with rfl | h2
      · exact hGt.setR hr rfl rfl
      · exact hG t h2
    · obtain ⟨j, hj, rfl⟩ := List.getElem_of_mem hp
      exact hP _ r ht hr j _ (Nat.lt_of_lt_of_le hj hn) (List.getElem?_eq_getElem hj)
end
/-- the versions' pairs, as they may be -/
structure LV (w0 w : World) (q : Xs) (B W : List Bt) (X Y : List Xt) (N : List Mt') : Prop where
  ex : ∃ M, EnvF w0 w (TF (bkX q B W X Y M N)) ∧ M.length = q.nm ∧ ∀ t ∈ M, t.1.l.length ≤ 1000000
/-- the rows are marked up to a place -/
structure LX (w0 w : World) (q : Xs) (B W : List Bt) (Y : List Xt) (M N : List Mt') (i k : Nat) : Prop where
  ex : ∃ X, EnvF w0 w (TF (bkX q B W X Y M N)) ∧ X.length = q.nx ∧ (∀ t ∈ X, t.2.length ≤ 1000000) ∧ MX X i k
section
variable {w0 w w' : World} {q : Xs} {B W : List Bt} {X Y : List Xt} {M N : List Mt'} {i k n : Nat}
theorem LV.bel (h : LV w0 w q B W X Y N) : Below w0.heap.size w0 w := by
  obtain ⟨M, E, _⟩ := h.ex
  exact E.bel
theorem LX.bel (h : LX w0 w q B W Y M N i k) : Below w0.heap.size w0 w := by
  obtain ⟨X, E, _⟩ := h.ex
  exact E.bel
theorem LV.later (h : LV w0 w q B W X Y N) (b : Below w.heap.size w w') : LV w0 w' q B W X Y N := by
  obtain ⟨M, E, h1⟩ := h.ex
  exact ⟨M, E.below b, h1⟩
theorem LX.later (h : LX w0 w q B W Y M N i k) (b : Below w.heap.size w w') : LX w0 w' q B W Y M N i k := by
  obtain ⟨X, E, h1⟩ := h.ex
  exact ⟨X, E.below b, h1⟩
theorem LV.place (h : LV w0 w q B W X Y N) (hi : i < q.nm) : ∃ g ma mn mc, q.a4 = some ⟨g, 0, none⟩ ∧ g < w.heap.size ∧ w.cell? ⟨g, i * 5 + 4, none⟩ = some (.slice ma mn mc) ∧ mn ≤ 1000000 ∧
    (n < mn → ∃ mb, ma = some ⟨mb, 0, none⟩ ∧ (∀ j, w.frozen? ⟨mb, j, none⟩ = false) ∧ (∃ o1 o2, w.cell? ⟨mb, n * 2, none⟩ = some o1 ∧ w.cell? ⟨mb, n * 2 + 1, none⟩ = some o2) ∧ LV w0 ((w.setCell ⟨mb, n * 2, none⟩ (str [118])).setCell ⟨mb, n * 2 + 1, none⟩ (str [])) q B W X Y N) := by
  obtain ⟨M, E, hl, hG⟩ := h.ex
  obtain ⟨t, ht⟩ : ∃ t, M[i]? = some t := ⟨M[i]'(by omega), List.getElem?_eq_getElem (by omega)⟩
  obtain ⟨g, cap, e, hg, c4⟩ := mv_row E ht
  obtain ⟨u, ma, mc⟩ := t
  have hGt := hG _ (List.mem_of_getElem? ht)
  have ho := mv_own E ht
  dsimp only at c4 hGt ho
  refine ⟨g, ma, u.l.length, mc, (sl_inj e).1, hg, c4, hGt, fun hn => ?_⟩
  have hpl : (pcells u.l).length = u.l.length * 2 := pcells_length _
  obtain ⟨mb, mcap, e2, hg2, hc2, hf2⟩ := own_row ho (by omega)
  obtain ⟨rfl, -, rfl⟩ := sl_inj e2
  refine ⟨mb, rfl, hf2, ⟨_, _, by rw [hc2 _ (by omega)]; exact List.getElem?_eq_getElem (by omega), by rw [hc2 _ (by omega)]; exact List.getElem?_eq_getElem (by omega)⟩, ?_⟩
  refine ⟨_, mv_pair E ht hn ⟨[118], []⟩, by simpa using hl, fun t h2 => ?_⟩
  rcases setM h2 with rfl | h2
  · simpa using hGt
  · exact hG t h2
theorem LX.place (h : LX w0 w q B W Y M N i k) (hi : i < q.nx) : ∃ g a ln c, q.a2 = some ⟨g, 0, none⟩ ∧ g < w.heap.size ∧ w.cell? ⟨g, i, none⟩ = some (.slice a ln c) ∧ ln ≤ 1000000 ∧
    (k < ln → ∃ rb, a = some ⟨rb, 0, none⟩ ∧ (∀ j, w.frozen? ⟨rb, j, none⟩ = false) ∧ (∃ o, w.cell? ⟨rb, k * 4 + 1, none⟩ = some o) ∧ LX w0 (w.setCell ⟨rb, k * 4 + 1, none⟩ (.int .i64 (num i k))) q B W Y M N i (k + 1)) ∧
    (ln ≤ k → LX w0 w q B W Y M N (i + 1) 0) := by
  obtain ⟨X, E, hl, hG, hM⟩ := h.ex
  obtain ⟨t, ht⟩ : ∃ t, X[i]? = some t := ⟨X[i]'(by omega), List.getElem?_eq_getElem (by omega)⟩
  obtain ⟨g, cap, e, hg, c1, _⟩ := xr_row E ht
  have ho := xr_own E ht
  have hGt := hG _ (List.mem_of_getElem? ht)
  obtain ⟨v, Z⟩ := t
  obtain ⟨a, c, ev⟩ : ∃ a c, v = .slice a Z.length c := wo_sl (base := 0) (w := w) ⟨ho, Nat.zero_le _⟩
  dsimp only at c1 hGt ho
  subst ev
  refine ⟨g, a, Z.length, c, (sl_inj e).1, hg, c1, hGt, fun hk => ?_, fun hk => ?_⟩
  · have hwl : (wcells Z).length = Z.length * 4 := wcells_length _
    obtain ⟨rb, rcap, e2, hg2, hc2, hf2⟩ := own_row ho (by omega)
    obtain ⟨rfl, -, rfl⟩ := sl_inj e2
    obtain ⟨r, hr⟩ : ∃ r, Z[k]? = some r := ⟨Z[k], List.getElem?_eq_getElem hk⟩
    refine ⟨rb, rfl, hf2, ⟨_, by rw [hc2 _ (by omega)]; exact List.getElem?_eq_getElem (by omega)⟩, ?_⟩
    refine ⟨_, xr_seq E ht rfl hr (num i k), by simpa using hl, fun t h2 => ?_, hM.mark ht hr⟩
    rcases setM h2 with rfl | h2
    · simpa using hGt
    · exact hG t h2
  · refine ⟨X, E, hl, hG, hM.next fun t h2 => ?_⟩
    rw [ht] at h2
    injection h2 with h2
    subst h2
    exact hk
end
end Go.Proofs.YtgcdnanfnbdjjaaGreat

/- The states in which grown's loops go on. -/
namespace Go.Proofs.YtgcdnanfnbdjjaaGreat
set_option linter.unusedVariables false
set_option linter.unusedSimpArgs false
open Go.RowKit
/-- append onto a row among the things -/
theorem app_rw2 {ops : Array Oper} {rest : List Oper} {o : Oper} {a : Act} {Q : Exit → Act → World → Prop} {W : World} (hgd : o.guard = none) (s x : Operand) (ty : TypeId) (ho : o.op = .call { callee := .builtin .append, args := #[s, x], argTypes := #[ty, ty] })
    {e : TypeId} {z : Value} {sz by' : Nat} (hu : Tryz.prog.underlying ty = some (.slice e)) (hinf : ∃ i, Tryz.prog.info? e = some i ∧ i.zero = some z ∧ i.size = sz ∧ i.bytes = by') (hz : z.cells.size = sz) (hs0 : 0 < sz) (hby : by' ≤ 1000)
    {w0 w : World} {Ls : List (List Th)} (E : EnvF w0 w (TF Ls)) {v : Value} {n m g : Nat} {xs : List Value} (k i : Nat) (hi : TF Ls (k, i) = some (rwTh e sz v n xs)) (ys : List Value) (hW : W = w.alloc (.cells ys.toArray e)) (hl : ys.length = m * sz) (hy : ∀ u ∈ ys, u.oneCell' = true) (hm : 0 < m) (hn : n + m ≤ 2000000) (hg : g = w.heap.size)
    (hs : a.eval s = v) (hx : a.eval x = .slice (some ⟨g, 0, none⟩) m m)
    (h : ∀ g' cap w', EnvF w0 w' (TF (Ls.set k ((Ls.getD k []).set i (rwTh e sz (.slice (some ⟨g', 0, none⟩) (n + m) cap) (n + m) (xs ++ ys))))) → wpList Tryz.prog ops Q rest (a.put o.dst (.slice (some ⟨g', 0, none⟩) (n + m) cap)) w') :
    wpList Tryz.prog ops Q (o :: rest) a W := by
  obtain ⟨i0, hi0, hz0, hz1, hz2⟩ := hinf
  subst hW hg
  have hmx : maxLen = 9223372036854775807 := rfl
  have hO : w.ownsRow 0 e sz v n xs := E.at' _ _ hi
  have E2 := E.below ((Below.refl w.heap.size w).alloc (Nat.le_refl _) (.cells ys.toArray e))
  refine wpList_append_lies _ hgd s x ty ho 0 e i0 z sz by' hu hi0 hz0 hz1 hz2 hz hs0 v n xs hs (hO.alloc _) _ m m ys hx hl
    (World.news_of_block (cs := ys.toArray) (t := e) (fr := (0, 0)) (heap_alloc_new w _)) hy hm (by rw [hmx]; omega) (Nat.le_trans (Nat.mul_le_mul hn hby) (by omega)) (Nat.zero_le _) _ rfl ?_
  intro g2 cap2 w' hown hgrow hat hlt
  refine h g2 cap2 w' (E2.tSet k i _ _ hi (Fr.of_grown hgrow (fun k hk => hk)) hown (fun j hj => ?_))
  have hj : g2 = j := by simpa [rwTh, Value.ownBlock] using hj
  subst hj
  rcases hat with q | q
  · exact .inl q
  · exact .inr (by omega)
/-- a list that was marked, with e more behind it -/
structure GG (i e : Nat) (t : Bt) : Prop where
  v : ∃ a c, t.2.1 = .slice a t.2.2.length c
  z : ∀ r ∈ t.2.2, r.z = []
  l : ∀ r ∈ t.2.2, r.v.l.length ≤ 4398046510976
  ms : ∃ m, m ≤ 1000000 ∧ t.2.2.length = m + e ∧ ∀ (k : Nat) (r : Rv), t.2.2[k]? = some r → k < m → Mkd i k r
def GM (B : List Bt) (I : Nat) : Prop := ∀ (i : Nat) (t : Bt), B[i]? = some t → GG i (if i < I then 4 else 0) t
theorem gm_of {B : List Bt} {n : Nat} (hl : B.length = n) (hG : ∀ t ∈ B, GB t) (hM : MB B n 0) : GM B 0 := fun i t ht => by
  have h := hG t (List.mem_of_getElem? ht)
  have hi := (List.getElem?_eq_some_iff.1 ht).1
  exact ⟨h.v, h.z, h.l, t.2.2.length, h.len, by simp, fun k r hk _ => hM i t k r ht hk (.inl (by omega))⟩
def moreV : Rv := ⟨⟨[109, 111, 114, 101], 0, false, [], []⟩, [], none, 0⟩
/-- .. and one of them grows -/
structure LH (w0 w : World) (q : Xs) (W : List Bt) (X Y : List Xt) (M N : List Mt') (i : Nat) (a : Option Addr) (ln c n : Nat) : Prop where
  ex : ∃ B nx v R R', EnvF w0 w (TF ((bkX q B W X Y M N).set 2 ((B.map foB).set i (foTh (.slice a ln c) R')))) ∧ B.length = q.nb ∧ GM B i ∧ B[i]? = some (nx, v, R) ∧ R'.length = ln ∧ GG i n (nx, .slice a ln c, R')
structure LG (w0 w : World) (q : Xs) (W : List Bt) (X Y : List Xt) (M N : List Mt') (i : Nat) : Prop where
  ex : ∃ B, EnvF w0 w (TF (bkX q B W X Y M N)) ∧ B.length = q.nb ∧ GM B i
section
variable {w0 w w' : World} {q : Xs} {W : List Bt} {X Y : List Xt} {M N : List Mt'} {i ln c k n : Nat} {a : Option Addr}
theorem LG.bel (h : LG w0 w q W X Y M N i) : Below w0.heap.size w0 w := by
  obtain ⟨B, E, _⟩ := h.ex
  exact E.bel
theorem LH.bel (h : LH w0 w q W X Y M N i a ln c n) : Below w0.heap.size w0 w := by
  obtain ⟨B, nx, v, R, R', E, _⟩ := h.ex
  exact E.bel
theorem LG.row (h : LG w0 w q W X Y M N i) (hi : i < q.nb) : ∃ g a ln c, q.a0 = some ⟨g, 0, none⟩ ∧ g < w.heap.size ∧ w.cell? ⟨g, i * 2 + 1, none⟩ = some (.slice a ln c) ∧ LH w0 w q W X Y M N i a ln c 0 := by
  obtain ⟨B, E, hl, hG⟩ := h.ex
  obtain ⟨t, ht⟩ : ∃ t, B[i]? = some t := ⟨B[i]'(by omega), List.getElem?_eq_getElem (by omega)⟩
  obtain ⟨g, cap, e, hg, _, c1, _⟩ := bk_row E ht
  obtain ⟨nx, v, R⟩ := t
  have hGt := hG i _ ht
  rw [if_neg (Nat.lt_irrefl i)] at hGt
  obtain ⟨a, c, ev⟩ := hGt.v
  dsimp only at ev c1
  subst ev
  refine ⟨g, a, R.length, c, (sl_inj e).1, hg, c1, ⟨B, nx, _, R, R, ?_, hl, hG, ht, rfl, hGt⟩⟩
  refine E.is ?_
  have hs : (B.map foB).set i (foTh (.slice a R.length c) R) = B.map foB := by
    apply List.ext_getElem?
    intro j
    by_cases q1 : j = i
    · subst q1
      have hj := (List.getElem?_eq_some_iff.1 ht).1
      rw [List.getElem?_set_self (by simpa using hj), List.getElem?_map, ht]; rfl
    · rw [List.getElem?_set_ne (fun e => q1 e.symm)]
  rw [hs]
  rfl
/-- one version behind it -/
theorem LH.app (h : LH w0 w q W X Y M N i a ln c n) (hn : n ≤ 100) : ∃ R, Ad 0 w (.slice a ln c) R moreV ∧ R.length = ln ∧ R.length ≤ 1954687338260 ∧
    ∀ g' cap w', Fo 0 w' (.slice (some ⟨g', 0, none⟩) (R.length + 1) cap) (R ++ [moreV]) → Below 0 w w' → (∀ k, k < w.heap.size → (Value.slice a ln c).ownBlock ≠ some k → w'.heap[k]? = w.heap[k]?) → ((Value.slice a ln c).ownBlock = some g' ∨ w.heap.size ≤ g') → LH w0 w' q W X Y M N i (some ⟨g', 0, none⟩) (ln + 1) cap (n + 1) := by
  obtain ⟨B, nx, v, R, R', E, hl, hG, ht, hR, hg⟩ := h.ex
  have hil := (List.getElem?_eq_some_iff.1 ht).1
  have hget : TF ((bkX q B W X Y M N).set 2 ((B.map foB).set i (foTh (.slice a ln c) R'))) (2, i) = some (foTh (.slice a ln c) R') := by
    show ((B.map foB).set i (foTh (.slice a ln c) R'))[i]? = _
    rw [List.getElem?_set_self (by simpa using hil)]
  have fo : Fo 0 w (.slice a ln c) R' := E.at' (2, i) _ hget
  obtain ⟨m, hm, hlen, hmk⟩ := hg.ms
  dsimp only at hlen
  have hO : Ow w.heap.size w moreV.mv (moreV.v.l ++ moreV.z) := ⟨World.ownsRow_nil _ _ _ _, Nat.le_refl _⟩
  refine ⟨R', fo.ad (Below.refl _ _) hO, hR, by omega, fun g' cap w' fo' b fr hat => ?_⟩
  have hfr : Fr (Tc (.slice a ln c) R') w w' := ⟨b.os, b.tape, b.output, b.size, fun k hk hn => fr k hk (fun e => hn (.inl e))⟩
  have E2 := E.tSet 2 i _ (foTh (.slice (some ⟨g', 0, none⟩) (R'.length + 1) cap) (R' ++ [moreV])) hget hfr fo' (fun j hj => by
    rcases hj with q1 | ⟨k2, r2, q1, q2⟩
    · have : g' = j := by simpa [Value.ownBlock] using q1
      subst this
      rcases hat with q3 | q3
      · exact .inl (.inl q3)
      · exact .inr q3
    · by_cases hk2 : k2 < R'.length
      · rw [List.getElem?_append_left hk2] at q1
        exact .inl (.inr ⟨k2, r2, q1, q2⟩)
      · rw [List.getElem?_append_right (by omega)] at q1
        have hz : k2 - R'.length = 0 := by
          have := (List.getElem?_eq_some_iff.1 q1).1
          simpa using this
        rw [hz] at q1
        simp at q1
        subst q1
        cases q2)
  refine ⟨B, nx, v, R, R' ++ [moreV], ?_, hl, hG, ht, by simp [hR], ⟨⟨some ⟨g', 0, none⟩, cap, by simp [hR]⟩, ?_, ?_, m, hm, ?_, ?_⟩⟩
  · refine E2.is ?_
    simp [bookL, List.set_set, hR]
  · intro r hr
    rcases List.mem_append.1 hr with q1 | q1
    · exact hg.z r q1
    · simp at q1; subst q1; rfl
  · intro r hr
    rcases List.mem_append.1 hr with q1 | q1
    · exact hg.l r q1
    · simp at q1; subst q1; simp [moreV]
  · simp; omega
  · intro k r hk hkm
    have hk : (R' ++ [moreV])[k]? = some r := hk
    rw [List.getElem?_append_left (by omega)] at hk
    exact hmk k r hk hkm
/-- .. and it is laid into the bucket -/
theorem LH.store (h : LH w0 w q W X Y M N i a ln c 4) (hi : i < q.nb) : ∃ g, q.a0 = some ⟨g, 0, none⟩ ∧ g < w.heap.size ∧ (∃ o, w.cell? ⟨g, i * 2 + 1, none⟩ = some o) ∧ w.frozen? ⟨g, i * 2 + 1, none⟩ = false ∧ LG w0 (w.setCell ⟨g, i * 2 + 1, none⟩ (.slice a ln c)) q W X Y M N (i + 1) := by
  obtain ⟨B, nx, v, R, R', E, hl, hG, ht, hR, hg⟩ := h.ex
  have hrow : w.ownsRow 0 24 2 (.slice q.a0 q.nb q.c0) B.length (bcl B) := E.at' (1, 0) _ rfl
  have hbl : (bcl B).length = B.length * 2 := flat_len _ 2 (fun _ => rfl) B
  obtain ⟨g, cap, e, hgl, hc, hf⟩ := own_row hrow (by omega)
  obtain ⟨e0, e1, e2⟩ := sl_inj e
  refine ⟨g, e0, hgl, ⟨_, by rw [hc _ (by omega)]; exact List.getElem?_eq_getElem (by omega)⟩, hf _, ?_⟩
  have hs := flat_set (fun t : Bt => [.int .i64 t.1, t.2.1]) 2 (fun _ => rfl) 1 (by omega) (.slice a ln c) B i (nx, v, R) (nx, .slice a ln c, R') ht rfl
  have hb : bcl (B.set i (nx, .slice a ln c, R')) = (bcl B).set (i * 2 + 1) (.slice a ln c) := hs
  have E2 := E.tSet (w' := w.setCell ⟨g, i * 2 + 1, none⟩ (.slice a ln c)) 1 0 _ (rwTh 24 2 (.slice q.a0 q.nb q.c0) B.length ((bcl B).set (i * 2 + 1) (.slice a ln c))) rfl (fr_set w g _ _ (by rw [e0]; rfl)) (by
      show World.ownsRow _ 0 24 2 (.slice q.a0 q.nb q.c0) B.length _
      rw [e] at hrow ⊢
      exact own_cellT hrow _ _) (fun j hj => .inl hj)
  refine ⟨B.set i (nx, .slice a ln c, R'), ?_, by simpa using hl, fun j t hj => ?_⟩
  · refine E2.is ?_
    simp [bookL, hb, List.map_set, foB]
  · rcases setG hj with ⟨rfl, rfl⟩ | ⟨q1, hj⟩
    · rw [if_pos (by omega)]
      exact hg
    · have := hG j t hj
      by_cases q2 : j < i
      · rw [if_pos q2] at this; rw [if_pos (by omega)]; exact this
      · rw [if_neg q2] at this; rw [if_neg (by omega)]; exact this
end
/-- the rows -/
structure GX (i e : Nat) (t : Xt) : Prop where
  ms : ∃ m, m ≤ 1000000 ∧ t.2.length = m + e ∧ ∀ (k : Nat) (r : Rw), t.2[k]? = some r → k < m → r.seq = num i k
def GY (X : List Xt) (I : Nat) : Prop := ∀ (i : Nat) (t : Xt), X[i]? = some t → GX i (if i < I then 4 else 0) t
theorem gy_of {X : List Xt} {n : Nat} (hl : X.length = n) (hG : ∀ t ∈ X, t.2.length ≤ 1000000) (hM : MX X n 0) : GY X 0 := fun i t ht => by
  have h := hG t (List.mem_of_getElem? ht)
  have hi := (List.getElem?_eq_some_iff.1 ht).1
  exact ⟨t.2.length, h, by simp, fun k r hk _ => hM i t k r ht hk (.inl (by omega))⟩
def moreW : Rw := ⟨[109, 111, 114, 101], 0, false, 0⟩
structure LY (w0 w : World) (q : Xs) (B W : List Bt) (Y : List Xt) (M N : List Mt') (i : Nat) : Prop where
  ex : ∃ X, EnvF w0 w (TF (bkX q B W X Y M N)) ∧ X.length = q.nx ∧ GY X i
structure LZ (w0 w : World) (q : Xs) (B W : List Bt) (Y : List Xt) (M N : List Mt') (i : Nat) (a : Option Addr) (ln c n : Nat) : Prop where
  ex : ∃ X v Z Z', EnvF w0 w (TF ((bkX q B W X Y M N).set 4 ((X.map woX).set i (rwTh 73 4 (.slice a ln c) ln (wcells Z'))))) ∧ X.length = q.nx ∧ GY X i ∧ X[i]? = some (v, Z) ∧ Z'.length = ln ∧ GX i n (.slice a ln c, Z')
section
variable {w0 w w' : World} {q : Xs} {B W : List Bt} {X Y : List Xt} {M N : List Mt'} {i ln c k n : Nat} {a : Option Addr}
theorem LY.bel (h : LY w0 w q B W Y M N i) : Below w0.heap.size w0 w := by
  obtain ⟨X, E, _⟩ := h.ex
  exact E.bel
theorem LZ.bel (h : LZ w0 w q B W Y M N i a ln c n) : Below w0.heap.size w0 w := by
  obtain ⟨X, v, Z, Z', E, _⟩ := h.ex
  exact E.bel
theorem LY.row (h : LY w0 w q B W Y M N i) (hi : i < q.nx) : ∃ g a ln c, q.a2 = some ⟨g, 0, none⟩ ∧ g < w.heap.size ∧ w.cell? ⟨g, i, none⟩ = some (.slice a ln c) ∧ LZ w0 w q B W Y M N i a ln c 0 := by
  obtain ⟨X, E, hl, hG⟩ := h.ex
  obtain ⟨t, ht⟩ : ∃ t, X[i]? = some t := ⟨X[i]'(by omega), List.getElem?_eq_getElem (by omega)⟩
  obtain ⟨g, cap, e, hg, c1, _⟩ := xr_row E ht
  have ho := xr_own E ht
  obtain ⟨v, Z⟩ := t
  obtain ⟨a, c, ev⟩ : ∃ a c, v = .slice a Z.length c := wo_sl (base := 0) (w := w) ⟨ho, Nat.zero_le _⟩
  have hGt := hG i _ ht
  rw [if_neg (Nat.lt_irrefl i)] at hGt
  dsimp only at ev c1
  subst ev
  refine ⟨g, a, Z.length, c, (sl_inj e).1, hg, c1, ⟨X, _, Z, Z, ?_, hl, hG, ht, rfl, hGt⟩⟩
  refine E.is ?_
  have hs : (X.map woX).set i (rwTh 73 4 (.slice a Z.length c) Z.length (wcells Z)) = X.map woX := by
    apply List.ext_getElem?
    intro j
    by_cases q1 : j = i
    · subst q1
      have hj := (List.getElem?_eq_some_iff.1 ht).1
      rw [List.getElem?_set_self (by simpa using hj), List.getElem?_map, ht]; rfl
    · rw [List.getElem?_set_ne (fun e => q1 e.symm)]
  rw [hs]
  rfl
theorem LZ.app (h : LZ w0 w q B W Y M N i a ln c n) (hn : n ≤ 100) : ∃ Ls Z, EnvF w0 w (TF Ls) ∧ TF Ls (4, i) = some (rwTh 73 4 (.slice a ln c) ln (wcells Z)) ∧ ln ≤ 1001000 ∧
    ∀ g' cap w', EnvF w0 w' (TF (Ls.set 4 ((Ls.getD 4 []).set i (rwTh 73 4 (.slice (some ⟨g', 0, none⟩) (ln + 1) cap) (ln + 1) (wcells Z ++ wcs moreW))))) → LZ w0 w' q B W Y M N i (some ⟨g', 0, none⟩) (ln + 1) cap (n + 1) := by
  obtain ⟨X, v, Z, Z', E, hl, hG, ht, hR, hg⟩ := h.ex
  have hil := (List.getElem?_eq_some_iff.1 ht).1
  obtain ⟨m, hm, hlen, hmk⟩ := hg.ms
  dsimp only at hlen
  refine ⟨_, Z', E, ?_, by omega, fun g' cap w' E2 => ⟨X, v, Z, Z' ++ [moreW], ?_, hl, hG, ht, by simp [hR], ⟨m, hm, by simp; omega, fun k r hk hkm => ?_⟩⟩⟩
  · show ((X.map woX).set i (rwTh 73 4 (.slice a ln c) ln (wcells Z')))[i]? = _
    rw [List.getElem?_set_self (by simpa using hil)]
  · refine E2.is ?_
    have : wcells (Z' ++ [moreW]) = wcells Z' ++ wcs moreW := by simp [wcells]
    simp [bookL, List.set_set, this]
  · have hk : (Z' ++ [moreW])[k]? = some r := hk
    rw [List.getElem?_append_left (by omega)] at hk
    exact hmk k r hk hkm
theorem LZ.store (h : LZ w0 w q B W Y M N i a ln c 4) (hi : i < q.nx) : ∃ g, q.a2 = some ⟨g, 0, none⟩ ∧ g < w.heap.size ∧ (∃ o, w.cell? ⟨g, i, none⟩ = some o) ∧ w.frozen? ⟨g, i, none⟩ = false ∧ LY w0 (w.setCell ⟨g, i, none⟩ (.slice a ln c)) q B W Y M N (i + 1) := by
  obtain ⟨X, v, Z, Z', E, hl, hG, ht, hR, hg⟩ := h.ex
  have hrow : w.ownsRow 0 58 1 (.slice q.a2 q.nx q.c2) X.length (xcl X) := E.at' (1, 2) _ rfl
  have hbl : (xcl X).length = X.length := by simp [xcl]
  obtain ⟨g, cap, e, hgl, hc, hf⟩ := own_row hrow (by omega)
  obtain ⟨e0, e1, e2⟩ := sl_inj e
  refine ⟨g, e0, hgl, ⟨_, by rw [hc _ (by omega)]; exact List.getElem?_eq_getElem (by omega)⟩, hf _, ?_⟩
  have hb : xcl (X.set i (.slice a ln c, Z')) = (xcl X).set i (.slice a ln c) := by unfold xcl; rw [List.map_set]
  have E2 := E.tSet (w' := w.setCell ⟨g, i, none⟩ (.slice a ln c)) 1 2 _ (rwTh 58 1 (.slice q.a2 q.nx q.c2) X.length ((xcl X).set i (.slice a ln c))) rfl (fr_set w g _ _ (by rw [e0]; rfl)) (by
      show World.ownsRow _ 0 58 1 (.slice q.a2 q.nx q.c2) X.length _
      rw [e] at hrow ⊢
      exact own_cellT hrow _ _) (fun j hj => .inl hj)
  refine ⟨X.set i (.slice a ln c, Z'), ?_, by simpa using hl, fun j t hj => ?_⟩
  · refine E2.is ?_
    subst hR
    simp [bookL, hb, List.map_set, woX]
  · rcases setG hj with ⟨rfl, rfl⟩ | ⟨q1, hj⟩
    · rw [if_pos (by omega)]
      exact hg
    · have := hG j t hj
      by_cases q2 : j < i
      · rw [if_pos q2] at this; rw [if_pos (by omega)]; exact this
      · rw [if_neg q2] at this; rw [if_neg (by omega)]; exact this
/-- what is looked at in the end -/
theorem ck_row (E : EnvF w0 w (TF (bkX q B W X Y M N))) (hl : B.length = q.nb) (hG : GM B q.nb) (hi : i < q.nb) : ∃ g a m c, q.a0 = some ⟨g, 0, none⟩ ∧ g < w.heap.size ∧ w.cell? ⟨g, i * 2 + 1, none⟩ = some (.slice a (m + 4) c) ∧ m ≤ 1000000 ∧
    ∀ k, k < m → ∃ lg ma mn mc ky, a = some ⟨lg, 0, none⟩ ∧ lg < w.heap.size ∧ w.cell? ⟨lg, k * 5, none⟩ = some (str ky) ∧ w.cell? ⟨lg, k * 5 + 1, none⟩ = some (.int .i64 (num i k)) ∧ w.cell? ⟨lg, k * 5 + 4, none⟩ = some (.slice ma mn mc) ∧ mn ≤ 4398046510976 ∧
      ∀ n, n < mn → ∃ mb, ma = some ⟨mb, 0, none⟩ ∧ mb < w.heap.size ∧ w.cell? ⟨mb, n * 2, none⟩ = some (str ky) ∧ w.cell? ⟨mb, n * 2 + 1, none⟩ = some (str [112]) := by
  obtain ⟨t, ht⟩ : ∃ t, B[i]? = some t := ⟨B[i]'(by omega), List.getElem?_eq_getElem (by omega)⟩
  obtain ⟨g, cap, e, hg, _, c1, _⟩ := bk_row E ht
  have fo := bk_fo E ht
  obtain ⟨nx, v, R⟩ := t
  have hGt := hG i _ ht
  rw [if_pos hi] at hGt
  obtain ⟨a, c, ev⟩ := hGt.v
  obtain ⟨m, hm, hlen, hmk⟩ := hGt.ms
  dsimp only at ev c1 fo hlen hmk
  subst ev
  rw [hlen] at c1
  refine ⟨g, a, m, c, (sl_inj e).1, hg, c1, hm, fun k hk => ?_⟩
  obtain ⟨r, hr⟩ : ∃ r, R[k]? = some r := ⟨R[k]'(by omega), List.getElem?_eq_getElem (by omega)⟩
  have hx : (rcells R).length = R.length * 5 := rcells_length R
  obtain ⟨lg, lcap, e2, hlg, hc, hf⟩ := own_row fo.own (by omega)
  obtain ⟨rfl, -, rfl⟩ := sl_inj e2
  have hcl : ∀ j, j < 5 → w.cell? ⟨lg, k * 5 + j, none⟩ = (rcs r)[j]? := fun j hj => by rw [hc _ (by omega), rcells_get hr j hj]
  have hz := hGt.z r (List.mem_of_getElem? hr)
  have hmt := fo.met k r hr
  rw [hz, List.append_nil] at hmt
  obtain ⟨k1, k2⟩ := hmk k r hr hk
  refine ⟨lg, r.a, r.v.l.length, r.c, r.v.key, rfl, hlg, hcl 0 (by omega), by rw [← k1]; exact hcl 1 (by omega), hcl 4 (by omega), hGt.l r (List.mem_of_getElem? hr), fun n hn => ?_⟩
  have hpl : (pcells r.v.l).length = r.v.l.length * 2 := pcells_length _
  obtain ⟨mb, mcap, e3, hg2, hc2, hf2⟩ := own_row hmt.own (by omega)
  have e4 : r.mv = .slice r.a (r.v.l.length + r.z.length) r.c := rfl
  rw [e4] at e3
  obtain ⟨p, hp⟩ : ∃ p, r.v.l[n]? = some p := ⟨r.v.l[n], List.getElem?_eq_getElem hn⟩
  have hpp := k2 p (List.mem_of_getElem? hp)
  subst hpp
  exact ⟨mb, (sl_inj e3).1, hg2, by rw [hc2 _ (by omega)]; exact (pcells_get hp).1, by rw [hc2 _ (by omega)]; exact (pcells_get hp).2⟩
theorem ck_rows (E : EnvF w0 w (TF (bkX q B W X Y M N))) (hl : X.length = q.nx) (hG : GY X q.nx) (hi : i < q.nx) : ∃ g a m c, q.a2 = some ⟨g, 0, none⟩ ∧ g < w.heap.size ∧ w.cell? ⟨g, i, none⟩ = some (.slice a (m + 4) c) ∧ m ≤ 1000000 ∧
    ∀ k, k < m → ∃ lg, a = some ⟨lg, 0, none⟩ ∧ lg < w.heap.size ∧ w.cell? ⟨lg, k * 4 + 1, none⟩ = some (.int .i64 (num i k)) := by
  obtain ⟨t, ht⟩ : ∃ t, X[i]? = some t := ⟨X[i]'(by omega), List.getElem?_eq_getElem (by omega)⟩
  obtain ⟨g, cap, e, hg, c1, _⟩ := xr_row E ht
  have ho := xr_own E ht
  obtain ⟨v, Z⟩ := t
  obtain ⟨a, c, ev⟩ : ∃ a c, v = .slice a Z.length c := wo_sl (base := 0) (w := w) ⟨ho, Nat.zero_le _⟩
  have hGt := hG i _ ht
  rw [if_pos hi] at hGt
  obtain ⟨m, hm, hlen, hmk⟩ := hGt.ms
  dsimp only at ev c1 ho hlen hmk
  subst ev
  have hwl : (wcells Z).length = Z.length * 4 := wcells_length _
  refine ⟨g, a, m, c, (sl_inj e).1, hg, by rw [c1, hlen], hm, fun k hk => ?_⟩
  obtain ⟨r, hr⟩ : ∃ r, Z[k]? = some r := ⟨Z[k]'(by omega), List.getElem?_eq_getElem (by omega)⟩
  obtain ⟨lg, lcap, e2, hlg, hc, hf⟩ := own_row ho (by omega)
  refine ⟨lg, (sl_inj e2).1, hlg, ?_⟩
  rw [hc _ (by omega), wcells_get hr 1 (by omega), ← hmk k r hr hk]
  rfl
end
end Go.Proofs.YtgcdnanfnbdjjaaGreat

/- marked. -/
namespace Go.Proofs.YtgcdnanfnbdjjaaGreat
set_option linter.unusedVariables false
set_option linter.unusedSimpArgs false
open Go.RowKit
attribute [local go_sem ↓] Go.wp_at_zero Go.wp_at_succ
theorem num_w (i k : Nat) (hi : i ≤ 1000) (hk : k ≤ 1000000) : wrap64 (wrap64 (-wrap64 (wrap64 (1000 * (i : Int)) + (k : Int))) - 1) = num i k := by
  unfold num wrap64
  omega
theorem number_any (i k : Nat) (hi : i ≤ 1000) (hk : k ≤ 1000000) (w : World) : Calls Tryz.prog 45 #[.int .i64 (i : Int), .int .i64 (k : Int)] w fun e w' => e = .returned (.int .i64 (num i k)) ∧ w' = w := by
  have h := num_w i k hi hk
  go_enter Tryz.func45, Tryz.ntmps45
  go_wp2_with fail
  go_ret
  have h2 : num i k = -(1000 * (i : Int) + (k : Int)) - 1 := by unfold num; omega
  exact ⟨by rw [h2]; rfl, rfl⟩
theorem wrq {n : Nat} (h : n ≤ 4398046510976) : wrap64 ((n : Int) + 1) = ((n + 1 : Nat) : Int) := by unfold wrap64; omega
set_option maxRecDepth 100000 in
set_option maxHeartbeats 8000000 in
theorem marked_any (w0 w : World) (g : Nat) (q : Xs) (B W : List Bt) (X Y : List Xt) (M N : List Mt') (hB : Bbk w0 g (.slice q.a0 q.nb q.c0) q.x1 (.slice q.a2 q.nx q.c2) q.x3 (.slice q.a4 q.nm q.c4) q.x5) (E : EnvF w0 w (TF (bkX q B W X Y M N)))
    (hn : q.nb ≤ 100 ∧ q.nx ≤ 100 ∧ q.nm ≤ 100) (lb : B.length = q.nb) (lx : X.length = q.nx) (lm : M.length = q.nm) (hG : ∀ t ∈ B, GB t) (hX : ∀ t ∈ X, t.2.length ≤ 1000000) (hM : ∀ t ∈ M, t.1.l.length ≤ 1000000) :
    Calls Tryz.prog 17 #[.pointer (some ⟨g, 0, none⟩)] w fun e w' => e = .returned (.tuple #[]) ∧ ∃ B' X' M', EnvF w0 w' (TF (bkX q B' W X' Y M' N)) ∧ B'.length = q.nb ∧ (∀ t ∈ B', GB t) ∧ MB B' q.nb 0 ∧ X'.length = q.nx ∧ (∀ t ∈ X', t.2.length ≤ 1000000) ∧ MX X' q.nx 0 := by
  have HL : Hid (LB w0 w q W X Y M N 0) := ⟨⟨B, E, lb, hG, MB.zero B⟩⟩
  have HV : Hid (M.length = q.nm ∧ ∀ t ∈ M, t.1.l.length ≤ 1000000) := ⟨lm, hM⟩
  have HX : Hid (X.length = q.nx ∧ ∀ t ∈ X, t.2.length ≤ 1000000) := ⟨lx, hX⟩
  have HB := Hid.mk hB
  have Hn := Hid.mk hn
  clear hB hn E lb lx lm hG hX hM
  obtain ⟨a0, c0, x1, a2, c2, x3, a4, c4, x5, nb, nx, nm⟩ := q
  dsimp only at *
  generalize hq : (⟨a0, c0, x1, a2, c2, x3, a4, c4, x5, nb, nx, nm⟩ : Xs) = q at *
  have Hq := Hid.mk hq
  clear hq
  have qa : q.a0 = a0 := by rw [← Hq.out]
  have qb : q.nb = nb := by rw [← Hq.out]
  have qc : q.a2 = a2 := by rw [← Hq.out]
  have qd : q.nx = nx := by rw [← Hq.out]
  have qe : q.a4 = a4 := by rw [← Hq.out]
  have qf : q.nm = nm := by rw [← Hq.out]
  have QA := Hid.mk qa
  have QB := Hid.mk qb
  have QC := Hid.mk qc
  have QD := Hid.mk qd
  have QE := Hid.mk qe
  have QF := Hid.mk qf
  clear qa qb qc qd qe qf
  go_enter Tryz.func17, Tryz.ntmps17
  go_wp2_with fail
  go_loopw [2] (fun o wr => ∃ i : Nat, i ≤ nb ∧ o = .int .i64 (i : Int) ∧ Hid (LB w0 wr q W X Y M N i)) (fun o _ => nb - (intOf o).toNat)
  case atStart => exact ⟨0, Nat.zero_le _, rfl, HL⟩
  case round =>
    clear HL
    obtain ⟨i, hi, rfl, HI⟩ := hrel
    obtain ⟨p0, p1, p2, p3, p4, p5⟩ := (HB.out.later HI.out.bel).cells
    by_cases hlt : i < nb
    · have d1 : decide ((i : Int) < (nb : Int)) = true := decide_eq_true (Int.ofNat_lt.2 hlt)
      have i2 : (i : Int) < (nb : Int) := Int.ofNat_lt.2 hlt
      have hw1 := wrq (n := i) (by have := Hn.out; omega)
      obtain ⟨gb, la, ln, lc, ea, hgb, c1, hln0, hLC⟩ := HI.out.row (by rw [QB.out]; exact hlt)
      have hln := Hid.mk hln0
      obtain rfl := QA.out.symm.trans ea
      have HC := Hid.mk hLC
      clear hln0 hLC ea HI p1 p2 p3 p4 p5
      go_wp2_with fail
      clear p0 c1 hgb
      go_loopw [4] (fun o wq => ∃ k : Nat, k ≤ ln ∧ o = .int .i64 (k : Int) ∧ Hid (LC w0 wq q W X Y M N i la ln lc k 0)) (fun o _ => ln - (intOf o).toNat)
      case atStart => exact ⟨0, Nat.zero_le _, rfl, HC⟩
      case round =>
        clear HC
        obtain ⟨k, hk, rfl, HK⟩ := hrel
        by_cases hlk : k < ln
        · have d2 : decide ((k : Int) < (ln : Int)) = true := decide_eq_true (Int.ofNat_lt.2 hlk)
          have hw2 := wrq (n := k) (by have := hln.out; omega)
          obtain ⟨MX, HX1, HX2⟩ : ∃ MX : Nat, Hid (4398046510976 ≤ MX) ∧ Hid (MX ≤ 4398046510976) := ⟨4398046510976, ⟨Nat.le_refl _⟩, ⟨Nat.le_refl _⟩⟩
          go_wp2_with fail
          go_loopw [5] (fun o wn => ∃ n : Nat, n ≤ MX ∧ o = .int .i64 (n : Int) ∧ Hid (LC w0 wn q W X Y M N i la ln lc k n)) (fun o _ => MX - (intOf o).toNat)
          case atStart => exact ⟨0, Nat.zero_le _, rfl, HK⟩
          case round =>
            clear HK
            obtain ⟨n, hn, rfl, HN⟩ := hrel
            obtain ⟨lg, ma, mn, mc, ky, ela, hlg, s0, s4, ⟨o1, s1⟩, hfz0, hmn0, hp0, hd0⟩ := HN.out.place hlk
            subst ela
            have hmn := Hid.mk hmn0
            have hfz := Hid.mk hfz0
            have hp := Hid.mk hp0
            have hd := Hid.mk hd0
            clear hmn0 hfz0 hp0 hd0
            have hw3 := wrq (n := n) (Nat.le_trans hn HX2.out)
            have k2 : (k : Int) < (ln : Int) := Int.ofNat_lt.2 hlk
            by_cases hlm : n < mn
            · have d3 : decide ((n : Int) < (mn : Int)) = true := decide_eq_true (Int.ofNat_lt.2 hlm)
              have k3 : (n : Int) < (mn : Int) := Int.ofNat_lt.2 hlm
              obtain ⟨mb, rfl, hmf, ⟨y1, y2, z1, z2⟩, hset⟩ := hp.out hlm
              have f1 := hmf (n * 2)
              have f2 := hmf (n * 2 + 1)
              have HSE := Hid.mk hset
              have hnx : n < MX := Nat.lt_of_lt_of_le hlm (Nat.le_trans hmn.out HX1.out)
              clear hset hmf hp hd hfz hn HN hmn HX1 HX2 s1
              go_wp2_with fail
              go_region
              have HSG : Hid (LC w0 (((wr.setCell ⟨mb, n * 2, none⟩ (str ky)).setCell ⟨mb, n * 2 + 1, none⟩ (str [112])).drew) q W X Y M N i (some ⟨lg, 0, none⟩) ln lc k (n + 1)) := ⟨HSE.out.later (Below.refl _ _).drew⟩
              clear z1 z2 f1 f2 HSE s0 s4 hlg
              generalize (((wr.setCell ⟨mb, n * 2, none⟩ (str ky)).setCell ⟨mb, n * 2 + 1, none⟩ (str [112])).drew) = wN at *
              clear d3 k3 hlm k2 d2 d1 hw1 hw2 hk hi hlk hlt i2 hln
              go_wp2_with fail
              exact ⟨⟨n + 1, hnx, by first | (rw [hw3]; done) | rfl | go_num, HSG⟩, by first | (rw [hw3]; exact lss_meas hnx) | exact meas1 hnx⟩
            · have d3 : decide ((n : Int) < (mn : Int)) = false := decide_eq_false (fun q => hlm (Int.ofNat_lt.1 q))
              have HSE := Hid.mk (hd.out (Nat.le_of_not_lt hlm))
              have f3 := hfz.out (k * 5 + 1)
              have hnb := fun w => number_any i k (by have := Hn.out; omega) (by have := hln.out; omega) w
              clear hp hd hfz hmn hn HX1 HX2 hw3 HN s0
              have d3' : decide (n < mn) = false := decide_eq_false hlm
              go_wp2_with (go_at_call 45; with_reducible refine Calls.mono (hnb _) ?_; rintro e w5 ⟨rfl, rfl⟩)
              clear hlm d3'
              clear f3 s1 s4 hlg d3 k2 d2 d1 hw1 hk hi hlt i2
              exact ⟨⟨k + 1, hlk, by first | (rw [hw2]; done) | rfl | go_num, HSE⟩, by first | (rw [hw2]; exact lss_meas hlk) | exact meas1 hlk⟩
        · obtain rfl : k = ln := Nat.le_antisymm hk (Nat.le_of_not_lt hlk)
          have d2 : decide ((k : Int) < (k : Int)) = false := decide_eq_false (fun q => Nat.lt_irrefl _ (Int.ofNat_lt.1 q))
          have HNI := Hid.mk HK.out.next
          clear HK hk hlk hln
          go_wp2_with fail
          exact ⟨⟨i + 1, hlt, by first | (rw [hw1]; done) | rfl | go_num, HNI⟩, by first | (rw [hw1]; exact lss_meas hlt) | exact meas1 hlt⟩
    · obtain rfl : i = nb := Nat.le_antisymm hi (Nat.le_of_not_lt hlt)
      have d1 : decide ((i : Int) < (i : Int)) = false := decide_eq_false (fun q => Nat.lt_irrefl _ (Int.ofNat_lt.1 q))
      obtain ⟨B', E', lb', hG', hMB⟩ := HI.out.ex
      have HR : Hid (B'.length = q.nb ∧ (∀ t ∈ B', GB t) ∧ MB B' i 0) := ⟨lb', hG', hMB⟩
      have HV0 : Hid (LV w0 wr q B' W X Y N) := ⟨⟨M, E', by rw [QF.out]; exact HV.out.1, HV.out.2⟩⟩
      clear HI hi hlt HV E' lb' hG' hMB
      go_wp2_with fail
      clear p0 p1 p2 p3 p4 p5 d1
      go_loopw [6] (fun o wr => ∃ j : Nat, j ≤ nm ∧ o = .int .i64 (j : Int) ∧ Hid (LV w0 wr q B' W X Y N)) (fun o _ => nm - (intOf o).toNat)
      case atStart => exact ⟨0, Nat.zero_le _, rfl, HV0⟩
      case round =>
        clear HV0
        obtain ⟨j, hj, rfl, HI⟩ := hrel
        obtain ⟨p0, p1, p2, p3, p4, p5⟩ := (HB.out.later HI.out.bel).cells
        by_cases hlt : j < nm
        · have d1 : decide ((j : Int) < (nm : Int)) = true := decide_eq_true (Int.ofNat_lt.2 hlt)
          have hw1 := wrq (n := j) (by have := Hn.out; omega)
          obtain ⟨MX, HX1, HX2⟩ : ∃ MX : Nat, Hid (1000000 ≤ MX) ∧ Hid (MX ≤ 1000000) := ⟨1000000, ⟨Nat.le_refl _⟩, ⟨Nat.le_refl _⟩⟩
          clear p0 p1 p2 p3 p5
          go_wp2_with fail
          clear p4
          go_loopw [7] (fun o wn => ∃ n : Nat, n ≤ MX ∧ o = .int .i64 (n : Int) ∧ Hid (LV w0 wn q B' W X Y N)) (fun o _ => MX - (intOf o).toNat)
          case atStart => exact ⟨0, Nat.zero_le _, rfl, HI⟩
          case round =>
            clear HI
            obtain ⟨n, hn, rfl, HN⟩ := hrel
            obtain ⟨p0, p1, p2, p3, p4, p5⟩ := (HB.out.later HN.out.bel).cells
            obtain ⟨vg, ma, mn, mc, ea, hvg, s4, hmn0, hp0⟩ := HN.out.place (n := n) (by rw [QF.out]; exact hlt)
            obtain rfl := QE.out.symm.trans ea
            have hmn := Hid.mk hmn0
            have hp := Hid.mk hp0
            clear hmn0 hp0 ea p0 p1 p2 p3 p5
            have hw3 := wrq (n := n) (by have := HX2.out; omega)
            have j2 : (j : Int) < (nm : Int) := Int.ofNat_lt.2 hlt
            by_cases hlm : n < mn
            · have d3 : decide ((n : Int) < (mn : Int)) = true := decide_eq_true (Int.ofNat_lt.2 hlm)
              have k3 : (n : Int) < (mn : Int) := Int.ofNat_lt.2 hlm
              obtain ⟨mb, rfl, hmf, ⟨y1, y2, z1, z2⟩, hset⟩ := hp.out hlm
              have f1 := hmf (n * 2)
              have f2 := hmf (n * 2 + 1)
              have HSE := Hid.mk hset
              have hnx : n < MX := Nat.lt_of_lt_of_le hlm (Nat.le_trans hmn.out HX1.out)
              clear hset hmf hp hn HN hmn HX1 HX2
              go_wp2_with fail
              clear z1 z2 f1 f2 s4 hvg p4
              clear d3 k3 hlm d1 hw1 hj hlt j2
              exact ⟨⟨n + 1, hnx, by first | (rw [hw3]; done) | rfl | go_num, HSE⟩, by first | (rw [hw3]; exact lss_meas hnx) | exact meas1 hnx⟩
            · have d3 : decide ((n : Int) < (mn : Int)) = false := decide_eq_false (fun q => hlm (Int.ofNat_lt.1 q))
              have d3' : decide (n < mn) = false := decide_eq_false hlm
              clear hp hmn hn HX1 HX2 hw3
              go_wp2_with fail
              exact ⟨⟨j + 1, hlt, by first | (rw [hw1]; done) | rfl | go_num, HN⟩, by first | (rw [hw1]; exact lss_meas hlt) | exact meas1 hlt⟩
        · obtain rfl : j = nm := Nat.le_antisymm hj (Nat.le_of_not_lt hlt)
          have d1 : decide ((j : Int) < (j : Int)) = false := decide_eq_false (fun q => Nat.lt_irrefl _ (Int.ofNat_lt.1 q))
          obtain ⟨M', E', lm', hM'⟩ := HI.out.ex
          have HX0 : Hid (LX w0 wr q B' W Y M' N 0 0) := ⟨⟨X, E', by rw [QD.out]; exact HX.out.1, HX.out.2, MX.zero X⟩⟩
          clear HI hj hlt HX E' lm' hM'
          go_wp2_with fail
          clear p0 p1 p2 p3 p4 p5 d1
          go_loopw [8] (fun o wr => ∃ j : Nat, j ≤ nx ∧ o = .int .i64 (j : Int) ∧ Hid (LX w0 wr q B' W Y M' N j 0)) (fun o _ => nx - (intOf o).toNat)
          case atStart => exact ⟨0, Nat.zero_le _, rfl, HX0⟩
          case round =>
            clear HX0
            obtain ⟨h, hh, rfl, HI⟩ := hrel
            obtain ⟨p0, p1, p2, p3, p4, p5⟩ := (HB.out.later HI.out.bel).cells
            by_cases hlt : h < nx
            · have d1 : decide ((h : Int) < (nx : Int)) = true := decide_eq_true (Int.ofNat_lt.2 hlt)
              have hw1 := wrq (n := h) (by have := Hn.out; omega)
              obtain ⟨MX, HX1, HX2⟩ : ∃ MX : Nat, Hid (1000000 ≤ MX) ∧ Hid (MX ≤ 1000000) := ⟨1000000, ⟨Nat.le_refl _⟩, ⟨Nat.le_refl _⟩⟩
              clear p0 p1 p3 p4 p5
              go_wp2_with fail
              clear p2
              go_loopw [9] (fun o wn => ∃ n : Nat, n ≤ MX ∧ o = .int .i64 (n : Int) ∧ Hid (LX w0 wn q B' W Y M' N h n)) (fun o _ => MX - (intOf o).toNat)
              case atStart => exact ⟨0, Nat.zero_le _, rfl, HI⟩
              case round =>
                clear HI
                obtain ⟨n, hn, rfl, HN⟩ := hrel
                obtain ⟨p0, p1, p2, p3, p4, p5⟩ := (HB.out.later HN.out.bel).cells
                obtain ⟨rg, ra, rn, rc, ea, hrg, s4, hmn0, hp0, hd0⟩ := HN.out.place (by rw [QD.out]; exact hlt)
                obtain rfl := QC.out.symm.trans ea
                have hmn := Hid.mk hmn0
                have hp := Hid.mk hp0
                have hd := Hid.mk hd0
                clear hmn0 hp0 hd0 ea p0 p1 p3 p4 p5
                have hw3 := wrq (n := n) (by have := HX2.out; omega)
                have j2 : (h : Int) < (nx : Int) := Int.ofNat_lt.2 hlt
                by_cases hlm : n < rn
                · have d3 : decide ((n : Int) < (rn : Int)) = true := decide_eq_true (Int.ofNat_lt.2 hlm)
                  have k3 : (n : Int) < (rn : Int) := Int.ofNat_lt.2 hlm
                  obtain ⟨rb, rfl, hmf, ⟨y1, z1⟩, hset⟩ := hp.out hlm
                  have f1 := hmf (n * 4 + 1)
                  have HSE := Hid.mk hset
                  have hnx : n < MX := Nat.lt_of_lt_of_le hlm (Nat.le_trans hmn.out HX1.out)
                  have hnb := fun w => number_any h n (by have := Hn.out; omega) (by have := HX2.out; omega) w
                  clear hset hmf hp hd hn HN hmn HX1 HX2
                  go_wp2_with fail
                  go_region_law (go_simp; go_at_call 45; with_reducible refine Calls.mono (hnb _) ?_; rintro e w5 ⟨rfl, rfl⟩)
                  all_goals (have HSG : Hid (LX w0 ((wr.setCell ⟨rb, n * 4 + 1, none⟩ (.int .i64 (num h n))).drew) q B' W Y M' N h (n + 1)) := ⟨HSE.out.later (Below.refl _ _).drew⟩)
                  all_goals clear z1 f1 s4 hrg p2 HSE
                  all_goals clear d3 k3 hlm d1 hw1 hh hlt j2
                  all_goals (go_wp2_with fail)
                  all_goals exact ⟨⟨n + 1, hnx, by first | (rw [hw3]; done) | rfl | go_num, HSG⟩, by first | (rw [hw3]; exact lss_meas hnx) | exact meas1 hnx⟩
                · have d3 : decide ((n : Int) < (rn : Int)) = false := decide_eq_false (fun q => hlm (Int.ofNat_lt.1 q))
                  have d3' : decide (n < rn) = false := decide_eq_false hlm
                  have HNI := Hid.mk (hd.out (Nat.le_of_not_lt hlm))
                  clear hp hd hmn hn HX1 HX2 hw3 HN
                  go_wp2_with fail
                  exact ⟨⟨h + 1, hlt, by first | (rw [hw1]; done) | rfl | go_num, HNI⟩, by first | (rw [hw1]; exact lss_meas hlt) | exact meas1 hlt⟩
            · obtain rfl : h = nx := Nat.le_antisymm hh (Nat.le_of_not_lt hlt)
              have d1 : decide ((h : Int) < (h : Int)) = false := decide_eq_false (fun q => Nat.lt_irrefl _ (Int.ofNat_lt.1 q))
              obtain ⟨X', E', lx', hX', hMX⟩ := HI.out.ex
              have HZ : Hid (EnvF w0 wr (TF (bkX q B' W X' Y M' N)) ∧ X'.length = q.nx ∧ (∀ t ∈ X', t.2.length ≤ 1000000) ∧ MX X' h 0) := ⟨E', lx', hX', hMX⟩
              clear HI hh hlt E' lx' hX' hMX
              go_wp2_with fail
              go_end0
              obtain ⟨z1, z2, z3, z4⟩ := HZ.out
              obtain ⟨r1, r2, r3⟩ := HR.out
              exact ⟨rfl, B', X', M', z1, by rw [← QB.out]; exact r1, r2, r3, by rw [← QD.out]; exact z2, z3, z4⟩
end Go.Proofs.YtgcdnanfnbdjjaaGreat

/- grown. -/
namespace Go.Proofs.YtgcdnanfnbdjjaaGreat
set_option linter.unusedVariables false
set_option linter.unusedSimpArgs false
open Go.RowKit
attribute [local go_sem ↓] Go.wp_at_zero Go.wp_at_succ
theorem wr4 {m : Nat} (h : m ≤ 1000000) : wrap64 (((m + 4 : Nat) : Int) - 4) = (m : Int) := by unfold wrap64; omega
theorem wr4' {m : Nat} (h : m ≤ 1000000) : wrap64 ((m : Int) + 4 - 4) = (m : Int) := by unfold wrap64; omega
theorem wr5 {m : Nat} (h : m ≤ 1000000) : wrap64 (m : Int) = (m : Int) := by unfold wrap64; omega
theorem number_b (i k : Nat) (hi : i ≤ 1000) (hk : k ≤ 1000000) (w : World) : Calls Tryz.prog 45 #[.int .i64 (i : Int), .int .i64 (k : Int)] w fun e w' => e = .returned (.int .i64 (num i k)) ∧ Below w.heap.size w w' :=
  (number_any i k hi hk w).mono fun e w' ⟨h1, h2⟩ => ⟨h1, by rw [h2]; exact Below.refl _ _⟩
theorem infoWx : ∃ i, Tryz.prog.info? 73 = some i ∧ i.zero = some (.agg #[.string ⟨#[]⟩, .int .i64 0, .bool false, .int .i64 0]) ∧ i.size = 4 ∧ i.bytes = 40 := info_parts infoWf
set_option maxRecDepth 100000 in
set_option maxHeartbeats 8000000 in
theorem grown_any (w0 w : World) (g : Nat) (q : Xs) (B W : List Bt) (X Y : List Xt) (M N : List Mt') (hB : Bbk w0 g (.slice q.a0 q.nb q.c0) q.x1 (.slice q.a2 q.nx q.c2) q.x3 (.slice q.a4 q.nm q.c4) q.x5) (E : EnvF w0 w (TF (bkX q B W X Y M N)))
    (hn : q.nb ≤ 100 ∧ q.nx ≤ 100) (lb : B.length = q.nb) (lx : X.length = q.nx) (hG : GM B 0) (hY : GY X 0) :
    Calls Tryz.prog 18 #[.pointer (some ⟨g, 0, none⟩)] w fun e w' => e = .returned (.bool true) ∧ Below w0.heap.size w0 w' := by
  have HL : Hid (LG w0 w q W X Y M N 0) := ⟨⟨B, E, lb, hG⟩⟩
  have HX : Hid (X.length = q.nx ∧ GY X 0) := ⟨lx, hY⟩
  have HB := Hid.mk hB
  have Hn := Hid.mk hn
  clear hB hn E lb lx hG hY
  obtain ⟨a0, c0, x1, a2, c2, x3, a4, c4, x5, nb, nx, nm⟩ := q
  dsimp only at *
  generalize hq : (⟨a0, c0, x1, a2, c2, x3, a4, c4, x5, nb, nx, nm⟩ : Xs) = q at *
  have Hq := Hid.mk hq
  clear hq
  have QA : Hid (q.a0 = a0) := ⟨by rw [← Hq.out]⟩
  have QB : Hid (q.nb = nb) := ⟨by rw [← Hq.out]⟩
  have QC : Hid (q.a2 = a2) := ⟨by rw [← Hq.out]⟩
  have QD : Hid (q.nx = nx) := ⟨by rw [← Hq.out]⟩
  clear Hq
  go_enter Tryz.func18, Tryz.ntmps18
  go_wp2_with fail
  go_loopw [3] (fun o wr => ∃ i : Nat, i ≤ nb ∧ o = .int .i64 (i : Int) ∧ Hid (LG w0 wr q W X Y M N i)) (fun o _ => nb - (intOf o).toNat)
  case atStart => exact ⟨0, Nat.zero_le _, rfl, HL⟩
  case round =>
    clear HL
    obtain ⟨i, hi, rfl, HI⟩ := hrel
    obtain ⟨p0, p1, p2, p3, p4, p5⟩ := (HB.out.later HI.out.bel).cells
    clear p1 p2 p3 p4 p5
    by_cases hlt : i < nb
    · have d1 : decide ((i : Int) < (nb : Int)) = true := decide_eq_true (Int.ofNat_lt.2 hlt)
      have i2 : (i : Int) < (nb : Int) := Int.ofNat_lt.2 hlt
      have hw1 := wrq (n := i) (by have := Hn.out; omega)
      obtain ⟨gb, la, ln, lc, ea, hgb, c1, hLH⟩ := HI.out.row (by rw [QB.out]; exact hlt)
      obtain rfl := QA.out.symm.trans ea
      have HC := Hid.mk hLH
      clear hLH ea HI
      go_wp2_with fail
      clear p0 c1 hgb
      go_loopw [5, 4] (fun o v wq => ∃ (n : Nat) (la : Option Addr) (ln lc : Nat), n ≤ 4 ∧ o = .int .i64 (n : Int) ∧ v = .slice la ln lc ∧ Hid (LH w0 wq q W X Y M N i la ln lc n)) (fun o _ _ => 4 - (intOf o).toNat)
      case atStart => exact ⟨0, la, ln, lc, Nat.zero_le _, rfl, rfl, HC⟩
      case round =>
        clear HC
        obtain ⟨n, la, ln, lc, hn4, rfl, rfl, HN⟩ := hrel
        by_cases hlk : n < 4
        · have d2 : decide ((n : Int) < 4) = true := decide_eq_true (Int.ofNat_lt.2 hlk)
          have hw2 := wrq (n := n) (by omega)
          obtain ⟨R, hA, hRl, hRb, hst0⟩ := HN.out.app (by omega)
          have hst := Hid.mk hst0
          have HRb := Hid.mk hRb
          have HA := Hid.mk hA
          have HRl := Hid.mk hRl
          clear hst0 hRb hRl hA HN hn4
          go_wp2_with (refine app_v rfl _ _ rfl moreV rfl HA.out rfl HRb.out rfl rfl ?_; intro g' cap' w' fo' bl' fr' at'; have HL2 := Hid.mk (hst.out g' cap' w' fo' bl' fr' at'); rw [HRl.out]; clear fo' fr' at' hst bl')
          exact ⟨⟨n + 1, _, _, _, hlk, by first | (rw [hw2]; done) | rfl | go_num, rfl, HL2⟩, by first | (rw [hw2]; exact lss_meas hlk) | exact meas1 hlk⟩
        · obtain rfl : n = 4 := by omega
          have d2 : decide (((4 : Nat) : Int) < 4) = false := decide_eq_false (by omega)
          obtain ⟨p0, p1, p2, p3, p4, p5⟩ := (HB.out.later HN.out.bel).cells
          clear p1 p2 p3 p4 p5
          obtain ⟨gb2, ea, hgb, ⟨ov, c1⟩, f1, hLG⟩ := HN.out.store (by rw [QB.out]; exact hlt)
          have ea2 := QA.out.symm.trans ea
          obtain rfl : gb = gb2 := by have := congrArg (fun a => (a.map Addr.block)) ea2; simpa using this
          have HNI := Hid.mk hLG
          clear hLG ea ea2 HN hlk hn4
          go_wp2_with fail
          exact ⟨⟨i + 1, hlt, by first | (rw [hw1]; done) | rfl | go_num, HNI⟩, by first | (rw [hw1]; exact lss_meas hlt) | exact meas1 hlt⟩
    · obtain rfl : i = nb := Nat.le_antisymm hi (Nat.le_of_not_lt hlt)
      have d1 : decide ((i : Int) < (i : Int)) = false := decide_eq_false (fun q => Nat.lt_irrefl _ (Int.ofNat_lt.1 q))
      obtain ⟨B', E', lb', hG'⟩ := HI.out.ex
      have HR : Hid (B'.length = q.nb ∧ GM B' i) := ⟨lb', hG'⟩
      have HV0 : Hid (LY w0 wr q B' W Y M N 0) := ⟨⟨X, E', by rw [QD.out]; exact HX.out.1, HX.out.2⟩⟩
      clear HI hi hlt HX E' lb' hG'
      go_wp2_with fail
      clear p0 d1
      go_loopw [6] (fun o wr => ∃ j : Nat, j ≤ nx ∧ o = .int .i64 (j : Int) ∧ Hid (LY w0 wr q B' W Y M N j)) (fun o _ => nx - (intOf o).toNat)
      case atStart => exact ⟨0, Nat.zero_le _, rfl, HV0⟩
      case round =>
        clear HV0
        obtain ⟨j, hj, rfl, HI⟩ := hrel
        obtain ⟨p0, p1, p2, p3, p4, p5⟩ := (HB.out.later HI.out.bel).cells
        clear p0 p1 p3 p4 p5
        by_cases hlt : j < nx
        · have d1 : decide ((j : Int) < (nx : Int)) = true := decide_eq_true (Int.ofNat_lt.2 hlt)
          have j2 : (j : Int) < (nx : Int) := Int.ofNat_lt.2 hlt
          have hw1 := wrq (n := j) (by have := Hn.out; omega)
          obtain ⟨gx, la, ln, lc, ea, hgx, c1, hLZ⟩ := HI.out.row (by rw [QD.out]; exact hlt)
          obtain rfl := QC.out.symm.trans ea
          have HC := Hid.mk hLZ
          clear hLZ ea HI
          go_wp2_with fail
          clear p2 c1 hgx
          go_loopw [8, 7] (fun o v wq => ∃ (n : Nat) (la : Option Addr) (ln lc : Nat), n ≤ 4 ∧ o = .int .i64 (n : Int) ∧ v = .slice la ln lc ∧ Hid (LZ w0 wq q B' W Y M N j la ln lc n)) (fun o _ _ => 4 - (intOf o).toNat)
          case atStart => exact ⟨0, la, ln, lc, Nat.zero_le _, rfl, rfl, HC⟩
          case round =>
            clear HC
            obtain ⟨n, la, ln, lc, hn4, rfl, rfl, HN⟩ := hrel
            by_cases hlk : n < 4
            · have d2 : decide ((n : Int) < 4) = true := decide_eq_true (Int.ofNat_lt.2 hlk)
              have hw2 := wrq (n := n) (by omega)
              obtain ⟨Ls, Z, hE, hT, hRb, hst0⟩ := HN.out.app (by omega)
              have hst := Hid.mk hst0
              have HRb := Hid.mk hRb
              have HE := Hid.mk hE
              have HT := Hid.mk hT
              clear hst0 hRb hE hT HN hn4
              go_wp2_with (with_reducible refine at_app rfl ?_; refine app_rw2 (v := .slice la ln lc) (n := ln) (m := 1) (xs := wcells Z) rfl _ _ 58 rfl Tryz.underlying58 infoWx rfl (by decide) (by decide) HE.out 4 j HT.out (wcs moreW) rfl rfl (by simp [wcs, Value.oneCell']) (by decide) (by have := HRb.out; omega) rfl rfl rfl ?_; intro g' cap' w' E1; have HL2 := Hid.mk (hst.out g' cap' w' E1); clear E1 hst)
              exact ⟨⟨n + 1, _, _, _, hlk, by first | (rw [hw2]; done) | rfl | go_num, rfl, HL2⟩, by first | (rw [hw2]; exact lss_meas hlk) | exact meas1 hlk⟩
            · obtain rfl : n = 4 := by omega
              have d2 : decide (((4 : Nat) : Int) < 4) = false := decide_eq_false (by omega)
              obtain ⟨p0, p1, p2, p3, p4, p5⟩ := (HB.out.later HN.out.bel).cells
              clear p0 p1 p3 p4 p5
              obtain ⟨gx2, ea, hgx, ⟨ov, c1⟩, f1, hLG⟩ := HN.out.store (by rw [QD.out]; exact hlt)
              have ea2 := QC.out.symm.trans ea
              obtain rfl : gx = gx2 := by have := congrArg (fun a => (a.map Addr.block)) ea2; simpa using this
              have HNI := Hid.mk hLG
              clear hLG ea ea2 HN hlk hn4
              go_wp2_with fail
              exact ⟨⟨j + 1, hlt, by first | (rw [hw1]; done) | rfl | go_num, HNI⟩, by first | (rw [hw1]; exact lss_meas hlt) | exact meas1 hlt⟩
        · obtain rfl : j = nx := Nat.le_antisymm hj (Nat.le_of_not_lt hlt)
          have d1 : decide ((j : Int) < (j : Int)) = false := decide_eq_false (fun q => Nat.lt_irrefl _ (Int.ofNat_lt.1 q))
          obtain ⟨X', E', lx', hY'⟩ := HI.out.ex
          have HE : Hid (EnvF w0 wr (TF (bkX q B' W X' Y M N))) := ⟨E'⟩
          have HS : Hid (X'.length = q.nx ∧ GY X' j) := ⟨lx', hY'⟩
          clear HI hj hlt E' lx' hY'
          go_wp2_with fail
          clear p2 d1
          generalize hWG : wr = wG at *
          clear hWG
          go_loopw [9] (fun o wr => ∃ h : Nat, h ≤ i ∧ o = .int .i64 (h : Int) ∧ Hid (Below wG.heap.size wG wr)) (fun o _ => i - (intOf o).toNat)
          case atStart => exact ⟨0, Nat.zero_le _, rfl, ⟨Below.refl _ _⟩⟩
          case round =>
            obtain ⟨h, hh, rfl, HI⟩ := hrel
            have EI := HE.out.below HI.out
            obtain ⟨p0, p1, p2, p3, p4, p5⟩ := (HB.out.later EI.bel).cells
            clear p1 p2 p3 p4 p5
            by_cases hlt : h < i
            · have d1 : decide ((h : Int) < (i : Int)) = true := decide_eq_true (Int.ofNat_lt.2 hlt)
              have i2 : (h : Int) < (i : Int) := Int.ofNat_lt.2 hlt
              have hw1 := wrq (n := h) (Nat.le_trans hh (Nat.le_trans Hn.out.1 (by decide)))
              obtain ⟨gb, la, m, lc, ea, hgb, c1, hm0, hck0⟩ := ck_row EI HR.out.1 (by rw [QB.out]; exact HR.out.2) (i := h) (by rw [QB.out]; exact hlt)
              obtain rfl := QA.out.symm.trans ea
              have hm := Hid.mk hm0
              have hck := Hid.mk hck0
              clear hm0 hck0 ea EI
              go_wp2_with fail
              clear p0 c1 hgb
              generalize hWJ : wr = wJ at *
              clear hWJ
              go_loopw [11] (fun o wr => ∃ k : Nat, k ≤ m ∧ o = .int .i64 (k : Int) ∧ Hid (Below wJ.heap.size wJ wr)) (fun o _ => m - (intOf o).toNat)
              case atStart => exact ⟨0, Nat.zero_le _, rfl, ⟨Below.refl _ _⟩⟩
              case round =>
                obtain ⟨k, hk, rfl, HK⟩ := hrel
                have hw4 := wr4 hm.out
                have hw4' := wr4' hm.out
                have hw5 := wr5 hm.out
                by_cases hlk : k < m
                · have d2 : decide ((k : Int) < (m : Int)) = true := decide_eq_true (Int.ofNat_lt.2 hlk)
                  have hw2 := wrq (n := k) (Nat.le_trans hk (Nat.le_trans hm.out (by decide)))
                  obtain ⟨lg, ma, mn, mc, ky, rfl, hlg, s0, s1, s4, hmn0, hpr0⟩ := hck.out k hlk
                  have hmn := Hid.mk hmn0
                  have hpr := Hid.mk hpr0
                  have k2 : (k : Int) < ((m + 4 : Nat) : Int) := Int.ofNat_lt.2 (Nat.lt_of_lt_of_le hlk (Nat.le_add_right _ _))
                  have k2' : (k : Int) < (m : Int) + 4 := k2
                  have hnb := fun w => number_b h k (Nat.le_trans hh (Nat.le_trans Hn.out.1 (by decide))) (Nat.le_trans hk hm.out) w
                  clear hmn0 hpr0
                  have t1 := (HK.out.cell (p := ⟨lg, _, none⟩) hlg).trans s1
                  generalize num h k = nu at *
                  have e1 : (nu != nu) = false := by simp
                  have e2 : (nu == nu) = true := by simp
                  have HS1 : Hid (∀ w', Below wr.heap.size wr w' → Below wr.heap.size wr w' ∧ w'.cell? ⟨lg, k * 5 + 1, none⟩ = some (.int .i64 nu)) := ⟨fun w' hb => ⟨hb, (hb.cell (p := ⟨lg, _, none⟩) (Nat.lt_of_lt_of_le hlg HK.out.size)).trans t1⟩⟩
                  go_wp2_with fail
                  go_region_held3 (fun w' => Below wr.heap.size wr w' ∧ w'.cell? ⟨lg, k * 5 + 1, none⟩ = some (.int .i64 nu)) ((refine HS1.out _ ?_; first
                    | with_reducible exact (Below.refl _ _).drew
                    | with_reducible exact below_seq (And.left (by assumption)) e9)) ((go_at_call 45; with_reducible refine Calls.mono (hnb _) ?_; rintro e w5 ⟨rfl, e9⟩))
                  have HK2 : Hid (Below wJ.heap.size wJ w5) := ⟨HK.out.trans ((And.left (by assumption) : Below wr.heap.size wr w5).mono HK.out.size)⟩
                  clear e9 HS1 t1 e1 e2 s1 HK hnb
                  go_wp2_with fail
                  clear k2 k2' d2 hw4 hw4' hw5
                  go_loopw [12] (fun o wr => ∃ n : Nat, n ≤ mn ∧ o = .int .i64 (n : Int) ∧ Hid (Below wJ.heap.size wJ wr)) (fun o _ => mn - (intOf o).toNat)
                  case atStart => exact ⟨0, Nat.zero_le _, rfl, HK2⟩
                  case round =>
                    clear HK2
                    obtain ⟨n, hn, rfl, HQ⟩ := hrel
                    have t0 := (HQ.out.cell (p := ⟨lg, _, none⟩) hlg).trans s0
                    have t4 := (HQ.out.cell (p := ⟨lg, _, none⟩) hlg).trans s4
                    have k2 : (k : Int) < ((m + 4 : Nat) : Int) := Int.ofNat_lt.2 (Nat.lt_of_lt_of_le hlk (Nat.le_add_right _ _))
                    have k2' : (k : Int) < (m : Int) + 4 := k2
                    by_cases hlm : n < mn
                    · have d3 : decide ((n : Int) < (mn : Int)) = true := decide_eq_true (Int.ofNat_lt.2 hlm)
                      have k3 : (n : Int) < (mn : Int) := Int.ofNat_lt.2 hlm
                      have hw3 := wrq (n := n) (Nat.le_trans hn hmn.out)
                      obtain ⟨mb, ema, hmb, y0, y1⟩ := hpr.out n hlm
                      subst ema
                      have z0 := (HQ.out.cell (p := ⟨mb, _, none⟩) hmb).trans y0
                      have z1 := (HQ.out.cell (p := ⟨mb, _, none⟩) hmb).trans y1
                      have HQ2 : Hid (Below wJ.heap.size wJ wr.drew) := ⟨HQ.out.drew⟩
                      clear HQ y0 y1 hmb s0 s4 hlg
                      go_wp2_with fail
                      go_region
                      clear z0 z1 t0 t4 k3 d3 k2 k2'
                      go_wp2_with fail
                      exact ⟨⟨n + 1, hlm, by first | (rw [hw3]; done) | rfl | go_num, HQ2⟩, by first | (rw [hw3]; exact lss_meas hlm) | exact meas1 hlm⟩
                    · obtain rfl : n = mn := Nat.le_antisymm hn (Nat.le_of_not_lt hlm)
                      have d3 : decide ((n : Int) < (n : Int)) = false := decide_eq_false (fun q => Nat.lt_irrefl _ (Int.ofNat_lt.1 q))
                      go_wp2_with fail
                      exact ⟨⟨k + 1, hlk, by first | (rw [hw2]; done) | rfl | go_num, HQ⟩, by first | (rw [hw2]; exact lss_meas hlk) | exact meas1 hlk⟩
                · obtain rfl : k = m := Nat.le_antisymm hk (Nat.le_of_not_lt hlk)
                  have d2 : decide ((k : Int) < (k : Int)) = false := decide_eq_false (fun q => Nat.lt_irrefl _ (Int.ofNat_lt.1 q))
                  have HNI : Hid (Below wG.heap.size wG wr) := ⟨HI.out.trans (HK.out.mono HI.out.size)⟩
                  go_wp2_with fail
                  exact ⟨⟨h + 1, hlt, by first | (rw [hw1]; done) | rfl | go_num, HNI⟩, by first | (rw [hw1]; exact lss_meas hlt) | exact meas1 hlt⟩
            · obtain rfl : h = i := Nat.le_antisymm hh (Nat.le_of_not_lt hlt)
              have d1 : decide ((h : Int) < (h : Int)) = false := decide_eq_false (fun q => Nat.lt_irrefl _ (Int.ofNat_lt.1 q))
              clear EI
              go_wp2_with fail
              clear p0 d1
              go_loopw [13] (fun o wr => ∃ x : Nat, x ≤ j ∧ o = .int .i64 (x : Int) ∧ Hid (Below wG.heap.size wG wr)) (fun o _ => j - (intOf o).toNat)
              case atStart => exact ⟨0, Nat.zero_le _, rfl, HI⟩
              case round =>
                clear HI
                obtain ⟨x, hx, rfl, HI⟩ := hrel
                have EI := HE.out.below HI.out
                obtain ⟨p0, p1, p2, p3, p4, p5⟩ := (HB.out.later EI.bel).cells
                clear p0 p1 p3 p4 p5
                by_cases hlt : x < j
                · have d1 : decide ((x : Int) < (j : Int)) = true := decide_eq_true (Int.ofNat_lt.2 hlt)
                  have i2 : (x : Int) < (j : Int) := Int.ofNat_lt.2 hlt
                  have hw1 := wrq (n := x) (Nat.le_trans hx (Nat.le_trans Hn.out.2 (by decide)))
                  obtain ⟨gx, la, m, lc, ea, hgx, c1, hm0, hck0⟩ := ck_rows EI HS.out.1 (by rw [QD.out]; exact HS.out.2) (i := x) (by rw [QD.out]; exact hlt)
                  obtain rfl := QC.out.symm.trans ea
                  have hm := Hid.mk hm0
                  have hck := Hid.mk hck0
                  have HBJ : Hid (∀ w', Below wr.heap.size wr w' → w'.cell? ⟨g, 2, none⟩ = some (.slice (some ⟨gx, 0, none⟩) j c2)) := ⟨fun w' hb => ((HB.out.later EI.bel).later hb).cells.2.2.1⟩
                  clear hm0 hck0 ea EI
                  go_wp2_with fail
                  clear p2
                  generalize hWJ : wr = wJ at *
                  clear hWJ
                  go_loopw [14] (fun o wr => ∃ k : Nat, k ≤ m ∧ o = .int .i64 (k : Int) ∧ Hid (Below wJ.heap.size wJ wr)) (fun o _ => m - (intOf o).toNat)
                  case atStart => exact ⟨0, Nat.zero_le _, rfl, ⟨Below.refl _ _⟩⟩
                  case round =>
                    obtain ⟨k, hk, rfl, HK⟩ := hrel
                    have hw4 := wr4 hm.out
                    have hw4' := wr4' hm.out
                    have hw5 := wr5 hm.out
                    have p2 := HBJ.out wr HK.out
                    have q1 := (HK.out.cell (p := ⟨gx, _, none⟩) hgx).trans c1
                    by_cases hlk : k < m
                    · have d2 : decide ((k : Int) < (m : Int)) = true := decide_eq_true (Int.ofNat_lt.2 hlk)
                      have hw2 := wrq (n := k) (Nat.le_trans hk (Nat.le_trans hm.out (by decide)))
                      obtain ⟨lg, ela, hlg, s1⟩ := hck.out k hlk
                      subst ela
                      have k2 : (k : Int) < ((m + 4 : Nat) : Int) := Int.ofNat_lt.2 (Nat.lt_of_lt_of_le hlk (Nat.le_add_right _ _))
                      have k2' : (k : Int) < (m : Int) + 4 := k2
                      have hnb := fun w => number_b x k (Nat.le_trans hx (Nat.le_trans Hn.out.2 (by decide))) (Nat.le_trans hk hm.out) w
                      have t1 := (HK.out.cell (p := ⟨lg, _, none⟩) hlg).trans s1
                      clear s1
                      generalize num x k = nu at *
                      have e1 : (nu != nu) = false := by simp
                      have e2 : (nu == nu) = true := by simp
                      have HS1 : Hid (∀ w', Below wr.heap.size wr w' → Below wr.heap.size wr w' ∧ w'.cell? ⟨g, 2, none⟩ = some (.slice (some ⟨gx, 0, none⟩) j c2) ∧ w'.cell? ⟨gx, x, none⟩ = some (.slice (some ⟨lg, 0, none⟩) (m + 4) lc) ∧ w'.cell? ⟨lg, k * 4 + 1, none⟩ = some (.int .i64 nu)) := ⟨fun w' hb => ⟨hb, HBJ.out w' (HK.out.trans (hb.mono HK.out.size)), (hb.cell (p := ⟨gx, _, none⟩) (Nat.lt_of_lt_of_le hgx HK.out.size)).trans q1, (hb.cell (p := ⟨lg, _, none⟩) (Nat.lt_of_lt_of_le hlg HK.out.size)).trans t1⟩⟩
                      go_wp2_with fail
                      go_region_held3 (fun w' => Below wr.heap.size wr w' ∧ w'.cell? ⟨g, 2, none⟩ = some (.slice (some ⟨gx, 0, none⟩) j c2) ∧ w'.cell? ⟨gx, x, none⟩ = some (.slice (some ⟨lg, 0, none⟩) (m + 4) lc) ∧ w'.cell? ⟨lg, k * 4 + 1, none⟩ = some (.int .i64 nu)) ((refine HS1.out _ ?_; first
                        | with_reducible exact (Below.refl _ _).drew
                        | with_reducible exact below_seq (And.left (by assumption)) e9)) ((go_at_call 45; with_reducible refine Calls.mono (hnb _) ?_; rintro e w5 ⟨rfl, e9⟩))
                      have HK2 : Hid (Below wJ.heap.size wJ w5) := ⟨HK.out.trans ((And.left (by assumption) : Below wr.heap.size wr w5).mono HK.out.size)⟩
                      clear e9 HS1 t1 e1 e2 HK hnb p2 q1
                      go_wp2_with fail
                      exact ⟨⟨k + 1, hlk, by first | (rw [hw2]; done) | rfl | go_num, HK2⟩, by first | (rw [hw2]; exact lss_meas hlk) | exact meas1 hlk⟩
                    · obtain rfl : k = m := Nat.le_antisymm hk (Nat.le_of_not_lt hlk)
                      have d2 : decide ((k : Int) < (k : Int)) = false := decide_eq_false (fun q => Nat.lt_irrefl _ (Int.ofNat_lt.1 q))
                      have HNI : Hid (Below wG.heap.size wG wr) := ⟨HI.out.trans (HK.out.mono HI.out.size)⟩
                      go_wp2_with fail
                      exact ⟨⟨x + 1, hlt, by first | (rw [hw1]; done) | rfl | go_num, HNI⟩, by first | (rw [hw1]; exact lss_meas hlt) | exact meas1 hlt⟩
                · obtain rfl : x = j := Nat.le_antisymm hx (Nat.le_of_not_lt hlt)
                  have d1 : decide ((x : Int) < (x : Int)) = false := decide_eq_false (fun q => Nat.lt_irrefl _ (Int.ofNat_lt.1 q))
                  have HEb := Hid.mk EI.bel
                  clear EI
                  go_wp2_with fail
                  go_ret
                  exact ⟨rfl, HEb.out⟩
end Go.Proofs.YtgcdnanfnbdjjaaGreat
