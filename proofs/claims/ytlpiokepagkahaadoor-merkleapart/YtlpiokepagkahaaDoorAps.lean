/- MerkleApart: what its later loops keep. -/
import Derived.Test.YtlpiokepagkahaaDoorOwn
import Derived.Test.YtlpiokepagkahaaDoorRPth
namespace Go.Proofs.YtlpiokepagkahaaDoor
set_option linter.unusedVariables false
set_option linter.unusedSimpArgs false
open Go.RowKit
section
variable {w wr w2 : World} {Bb Mb i n : Nat} {mk : Hs} {PA P : Nat → List Hs} {E : Ix → Ent} {va vb vw : Value}
theorem ST.ra (S : ST w Bb Mb mk PA P i E wr) (h : (E .oa).v = va) : wr.ownsRow Bb 25 1 va i ((List.range i).map fun k => (E (.ia k)).v) := by subst h; exact S.ow.out S.oa (by simp)
theorem ST.rb (S : ST w Bb Mb mk PA P i E wr) (h : (E .ob).v = vb) : wr.ownsRow Bb 25 1 vb i ((List.range i).map fun k => (E (.ib k)).v) := by subst h; exact S.ow.out S.ob (by simp)
theorem ST.rw (S : ST w Bb Mb mk PA P i E wr) (h : (E .ow).v = vw) : wr.ownsRow Bb 25 1 vw i ((List.range i).map fun k => (E (.iw k)).v) := by subst h; exact S.ow.out S.oW (by simp)
theorem ST.ai (S : ST w Bb Mb mk PA P n E wr) (k : Nat) (hk : k < n) : wr.ownsRow Bb 23 32 (E (.ia k)).v (PA k).length (flatL (PA k)) := S.ow.inn (S.ia k hk)
theorem ST.bi (S : ST w Bb Mb mk PA P n E wr) (k : Nat) (hk : k < n) : wr.ownsRow Bb 23 32 (E (.ib k)).v (P k).length (flatL (P k)) := S.ow.inn (S.ib k hk)
theorem ST.wi (S : ST w Bb Mb mk PA P n E wr) (k : Nat) (hk : k < n) : wr.ownsRow Bb 23 32 (E (.iw k)).v (P k).length (flatL (P k)) := S.ow.inn (S.iw k hk)
theorem get_map (f : Nat → Value) (n j : Nat) (hj : j < n) : ((List.range n).map f)[j]? = some (f j) := by simp [hj]
end
structure PH (w : World) (Bb Mb : Nat) (mk : Hs) (P : Nat → List Hs) (n : Nat) (va vb vw : Value) (PA : Nat → List Hs) (E : Ix → Ent) (wr : World) : Prop where
  st : ST w Bb Mb mk PA P n E wr
  ea : (E .oa).v = va
  eb : (E .ob).v = vb
  ew : (E .ow).v = vw
section
variable {w wr w2 : World} {Bb Mb n : Nat} {mk : Hs} {PA P : Nat → List Hs} {E : Ix → Ent} {va vb vw : Value}
theorem PH.next (h : PH w Bb Mb mk P n va vb vw PA E wr) (bq : Below wr.heap.size wr w2) : PH w Bb Mb mk P n va vb vw PA E w2 := ⟨h.st.next bq, h.ea, h.eb, h.ew⟩
theorem PH.congr {PA' : Nat → List Hs} (h : PH w Bb Mb mk P n va vb vw PA E wr) (hp : ∀ k, k < n → PA k = PA' k) : PH w Bb Mb mk P n va vb vw PA' E wr :=
  ⟨⟨h.st.k, h.st.bel, h.st.rm, h.st.hb, h.st.ow, h.st.oa, h.st.ob, h.st.oW, fun k hk => by rw [← hp k hk]; exact h.st.ia k hk, h.st.ib, h.st.iw, h.st.fr⟩, h.ea, h.eb, h.ew⟩
/-- A row of a changed in its place. -/
theorem PH.put {j : Nat} (h : PH w Bb Mb mk P n va vb vw PA E wr) (hj : j < n) (l : List Hs) (hK : KIn w) (own2 : w2.ownsRow Bb 23 32 (E (.ia j)).v l.length (flatL l)) (gr : wr.grownBy w2 (E (.ia j)).v.ownBlock) :
    PH w Bb Mb mk P n va vb vw (fun m => if m = j then l else PA m) (YtlpiokepagkahaaDoor.put E (.ia j) (hE (E (.ia j)).v l)) w2 := by
  have S := h.st
  have B := S.sb.grow gr (fun g hg => ((S.ow.own (.ia j)).lt g hg).1) hK
  have O := S.ow.upd (.ia j) (hE (E (.ia j)).v l) gr own2 (fun g hg => .inl hg)
  have hv : ∀ k, (YtlpiokepagkahaaDoor.put E (.ia j) (hE (E (.ia j)).v l) (.ia k)).v = (E (.ia k)).v := fun k => by
    by_cases hk : k = j
    · subst hk; rw [put_same]; rfl
    · rw [put_other _ _ (by simpa using hk)]
  refine ⟨⟨B.k, B.bel, B.rm, B.hb, O, ?_, ?_, ?_, fun k hk => ?_, fun k hk => ?_, fun k hk => ?_, fun k hk => ?_⟩, ?_, ?_, ?_⟩
  · simp only [hv]; rw [put_other _ _ (by simp)]; exact S.oa
  · rw [put_other _ _ (by simp)]; simpa [YtlpiokepagkahaaDoor.put] using S.ob
  · rw [put_other _ _ (by simp)]; simpa [YtlpiokepagkahaaDoor.put] using S.oW
  · by_cases hkj : k = j
    · subst hkj; rw [put_same, if_pos rfl]; rfl
    · rw [put_other _ _ (by simpa using hkj), if_neg hkj]; exact S.ia k hk
  · rw [put_other _ _ (by simp)]; exact S.ib k hk
  · rw [put_other _ _ (by simp)]; exact S.iw k hk
  · rw [hv, put_other _ _ (by simp), put_other _ _ (by simp)]; exact S.fr k hk
  · rw [put_other _ _ (by simp)]; exact h.ea
  · rw [put_other _ _ (by simp)]; exact h.eb
  · rw [put_other _ _ (by simp)]; exact h.ew
end
/-- The second loop: the rows of a up to j hold marks, and of row j the first k. -/
structure P2 (w : World) (Bb Mb : Nat) (mk : Hs) (P : Nat → List Hs) (n : Nat) (va vb vw : Value) (j k : Nat) (PA : Nat → List Hs) (E : Ix → Ent) (wr : World) : Prop where
  ph : PH w Bb Mb mk P n va vb vw PA E wr
  len : ∀ m, m < n → (PA m).length = (P m).length
  all : ∀ m, m < j → ∀ x ∈ PA m, x = mk
  part : ∀ m x, m < k → (PA j)[m]? = some x → x = mk
section
variable {w wr w2 : World} {Bb Mb n j k : Nat} {mk : Hs} {PA P : Nat → List Hs} {E : Ix → Ent} {va vb vw : Value}
theorem P2.up (h : P2 w Bb Mb mk P n va vb vw j (P j).length PA E wr) (hj : j < n) : P2 w Bb Mb mk P n va vb vw (j + 1) 0 PA E wr :=
  ⟨h.ph, h.len, fun m hm x hx => by
    by_cases he : m = j
    · subst he
      obtain ⟨q, hq⟩ := List.getElem?_of_mem hx
      have := (List.getElem?_eq_some_iff.mp hq).1
      exact h.part q x (by rw [← h.len m hj]; exact this) hq
    · exact h.all m (by omega) x hx, fun m x hm => by omega⟩
theorem P2.set {g c : Nat} (h : P2 w Bb Mb mk P n va vb vw j k PA E wr) (hK : KIn w) (hj : j < n) (hk : k < (P j).length) (hvj : (E (.ia j)).v = .slice (some ⟨g, 0, none⟩) (P j).length c) :
    ∃ PA' E', P2 w Bb Mb mk P n va vb vw j (k + 1) PA' E' (wr.setCells g (k * 32) (hv mk)) := by
  have hl := h.len j hj
  have own := h.ph.st.ai j hj
  rw [hvj, ← hl] at own
  obtain ⟨own2, gr, _⟩ := own_set own k (by omega) mk
  refine ⟨_, _, h.ph.put hj ((PA j).set k mk) hK ?_ ?_, fun m hm => ?_, fun m hm => ?_, fun m x hm hx => ?_⟩
  · rw [hvj, ← hl, List.length_set]; exact own2
  · rw [hvj]; exact gr
  · by_cases e : m = j
    · rw [if_pos e, List.length_set]; rw [e]; exact hl
    · rw [if_neg e]; exact h.len m hm
  · rw [if_neg (by omega)]; exact h.all m hm
  · rw [if_pos rfl] at hx
    by_cases e : m = k
    · subst e
      rw [List.getElem?_set_self (by omega)] at hx
      exact (Option.some.inj hx).symm
    · rw [List.getElem?_set_ne (by omega)] at hx
      exact h.part m x (by omega) hx
theorem P2.next (h : P2 w Bb Mb mk P n va vb vw j k PA E wr) (bq : Below wr.heap.size wr w2) : P2 w Bb Mb mk P n va vb vw j k PA E w2 := ⟨h.ph.next bq, h.len, h.all, h.part⟩
end
theorem below_drew (w : World) : Below w.heap.size w w.drew := ⟨rfl, rfl, rfl, Nat.le_refl _, fun _ _ => rfl⟩
section
variable {w wr w2 : World} {Bb Mb n j k : Nat} {mk : Hs} {PA P : Nat → List Hs} {E : Ix → Ent} {va vb vw : Value} {aa : Option Addr} {ca : Nat}
theorem PH.cellA0 (h : PH w Bb Mb mk P n va vb vw PA E wr) (hv : va = .slice aa n ca) (hj : j < n) : ∃ g, aa = some ⟨g, 0, none⟩ := by
  have h1 := h.st.ra h.ea
  rw [hv] at h1
  obtain ⟨_, _, hq, _, _, hc⟩ := own_out h1
  obtain ⟨g, hg, _⟩ := hc j _ (get_map _ n j hj)
  injection hq with q1
  exact ⟨g, by rw [q1]; exact hg⟩
theorem PH.cellB0 (h : PH w Bb Mb mk P n va vb vw PA E wr) (hv : vb = .slice aa n ca) (hj : j < n) : ∃ g, aa = some ⟨g, 0, none⟩ := by
  have h1 := h.st.rb h.eb
  rw [hv] at h1
  obtain ⟨_, _, hq, _, _, hc⟩ := own_out h1
  obtain ⟨g, hg, _⟩ := hc j _ (get_map _ n j hj)
  injection hq with q1
  exact ⟨g, by rw [q1]; exact hg⟩
theorem PH.cellW0 (h : PH w Bb Mb mk P n va vb vw PA E wr) (hv : vw = .slice aa n ca) (hj : j < n) : ∃ g, aa = some ⟨g, 0, none⟩ := by
  have h1 := h.st.rw h.ew
  rw [hv] at h1
  obtain ⟨_, _, hq, _, _, hc⟩ := own_out h1
  obtain ⟨g, hg, _⟩ := hc j _ (get_map _ n j hj)
  injection hq with q1
  exact ⟨g, by rw [q1]; exact hg⟩
theorem PH.cellA {g : Nat} (h : PH w Bb Mb mk P n va vb vw PA E wr) (hv : va = .slice (some ⟨g, 0, none⟩) n ca) (hj : j < n) : wr.cell? ⟨g, j, none⟩ = some (E (.ia j)).v := by
  have h1 := h.st.ra h.ea
  rw [hv] at h1
  obtain ⟨_, _, hq, _, _, hc⟩ := own_out h1
  obtain ⟨g', hg, hx⟩ := hc j _ (get_map _ n j hj)
  injection hq with q1
  rw [hg] at q1
  injection q1 with q1
  injection q1 with q1
  rw [q1]; exact hx
theorem PH.cellB {g : Nat} (h : PH w Bb Mb mk P n va vb vw PA E wr) (hv : vb = .slice (some ⟨g, 0, none⟩) n ca) (hj : j < n) : wr.cell? ⟨g, j, none⟩ = some (E (.ib j)).v := by
  have h1 := h.st.rb h.eb
  rw [hv] at h1
  obtain ⟨_, _, hq, _, _, hc⟩ := own_out h1
  obtain ⟨g', hg, hx⟩ := hc j _ (get_map _ n j hj)
  injection hq with q1
  rw [hg] at q1
  injection q1 with q1
  injection q1 with q1
  rw [q1]; exact hx
theorem PH.cellW {g : Nat} (h : PH w Bb Mb mk P n va vb vw PA E wr) (hv : vw = .slice (some ⟨g, 0, none⟩) n ca) (hj : j < n) : wr.cell? ⟨g, j, none⟩ = some (E (.iw j)).v := by
  have h1 := h.st.rw h.ew
  rw [hv] at h1
  obtain ⟨_, _, hq, _, _, hc⟩ := own_out h1
  obtain ⟨g', hg, hx⟩ := hc j _ (get_map _ n j hj)
  injection hq with q1
  rw [hg] at q1
  injection q1 with q1
  injection q1 with q1
  rw [q1]; exact hx
/-- Row j of a, as a slice. -/
theorem P2.row (h : P2 w Bb Mb mk P n va vb vw j k PA E wr) (hj : j < n) {L : Nat} (hL : L = (P j).length) : ∃ ja jc, (E (.ia j)).v = .slice ja L jc ∧ (0 < L → ∃ g, ja = some ⟨g, 0, none⟩) ∧ ∀ g m, ja = some ⟨g, 0, none⟩ → m < L → wr.there g (m * 32) 32 := by
  have own := h.ph.st.ai j hj
  have hl := h.len j hj
  rcases own.2 with ⟨h1, h2⟩ | ⟨g, c, cur, h1, h2, h3, h4, h5, h6, h7⟩
  · exact ⟨none, 0, by rw [h1]; rw [hL, ← hl, h2], fun h => by omega, fun g m h => by cases h⟩
  · refine ⟨_, c, by rw [h1, hL, hl], fun _ => ⟨g, rfl⟩, fun g' m e hm => ?_⟩
    injection e with e
    injection e with e
    subst e
    exact there_of_row h3 _ (by omega)
end
theorem store_at {w : World} {B o : Nat} (h : w.there B o 32) (g : Hs) : (stS 23 (.pointer (some ⟨B, o, none⟩)) (.agg (hv g).toArray)).run Tryd.prog w = .ok () (w.setCells B o (hv g)) := by
  have := run_storeAt_mid (P := Tryd.prog) w B o 23 (hv g).toArray (by rw [List.size_toArray, hv_length]; exact h) (size_hv g) (all_oneCell_toArray (hv_one g))
  exact this
/-- The third loop's rows. -/
noncomputable def PB (P : Nat → List Hs) (mk : Hs) (j k : Nat) : Nat → List Hs := fun m => List.replicate ((P m).length + (if m < j then 10 else if m = j then k else 0)) mk
theorem PB_up (P : Nat → List Hs) (mk : Hs) (j : Nat) : PB P mk j 10 = PB P mk (j + 1) 0 := by
  funext m
  unfold PB
  congr 2
  by_cases h : m < j
  · rw [if_pos h, if_pos (by omega)]
  · rw [if_neg h]
    by_cases h2 : m = j
    · rw [if_pos h2, if_pos (by omega)]
    · rw [if_neg h2, if_neg (by omega)]; split <;> rfl
theorem PB_at (P : Nat → List Hs) (mk : Hs) (j k : Nat) : PB P mk j k j = List.replicate ((P j).length + k) mk := by unfold PB; rw [if_neg (by omega), if_pos rfl]
theorem PB_more (P : Nat → List Hs) (mk : Hs) (j k : Nat) : (fun m => if m = j then PB P mk j k j ++ [mk] else PB P mk j k m) = PB P mk j (k + 1) := by
  funext m
  by_cases h : m = j
  · subst h
    rw [if_pos rfl, PB_at, PB_at, ← Nat.add_assoc, List.replicate_succ']
  · rw [if_neg h]
    unfold PB
    rw [if_neg h, if_neg h]
section
variable {w wr w2 : World} {Bb Mb n j k : Nat} {mk : Hs} {PA P : Nat → List Hs} {E : Ix → Ent} {va vb vw : Value} {aa : Option Addr} {ca : Nat}
theorem P2.third (h : P2 w Bb Mb mk P n va vb vw n 0 PA E wr) : PH w Bb Mb mk P n va vb vw (PB P mk 0 0) E wr :=
  h.ph.congr fun m hm => by
    unfold PB
    rw [if_neg (by omega)]
    have : (if m = 0 then 0 else 0) = 0 := by split <;> rfl
    rw [this, Nat.add_zero]
    exact List.eq_replicate_iff.mpr ⟨h.len m hm, h.all m hm⟩
/-- A row of a with one hash more, laid back into a. -/
theorem PH.app {ag g c L : Nat} {w3 : World} {o : Obj} (h : PH w Bb Mb mk P n va vb vw PA E wr) (hK : KIn w) (hj : j < n) (hva : va = .slice (some ⟨ag, 0, none⟩) n ca) (hL : L = (PA j).length) (own3 : w3.ownsRow Bb 23 32 (.slice (some ⟨g, 0, none⟩) (L + 1) c) (L + 1) (flatL (PA j) ++ hv mk))
    (gr : (wr.alloc o).grownBy w3 (E (.ia j)).v.ownBlock) (at3 : (E (.ia j)).v.ownBlock = some g ∨ g = (wr.alloc o).heap.size) :
    (w3.cell? ⟨ag, j, none⟩ = some (E (.ia j)).v ∧ w3.frozen? ⟨ag, j, none⟩ = false) ∧ ∃ E', PH w Bb Mb mk P n va vb vw (fun m => if m = j then PA j ++ [mk] else PA m) E' (w3.setCell ⟨ag, j, none⟩ (.slice (some ⟨g, 0, none⟩) (L + 1) c)) := by
  have S := h.st
  have ba : Below wr.heap.size wr (wr.alloc o) := (Below.refl _ _).alloc (Nat.le_refl _) o
  have B1 := (S.sb.next ba).grow gr (fun g hg => ((S.ow.own (.ia j)).lt g hg).1) hK
  obtain ⟨v3, hv3⟩ : ∃ v3, v3 = Value.slice (some ⟨g, 0, none⟩) (L + 1) c := ⟨_, rfl⟩
  have hl3 : (PA j ++ [mk]).length = L + 1 := by rw [List.length_append, hL]; rfl
  have O1 : OW w3 Bb (YtlpiokepagkahaaDoor.put E (.ia j) (hE v3 (PA j ++ [mk]))) := by
    refine (S.ow.next ba).upd (.ia j) _ gr ?_ (fun g' hg' => ?_)
    · show w3.ownsRow Bb 23 32 v3 (PA j ++ [mk]).length (flatL (PA j ++ [mk]))
      rw [hl3, hv3, flatL_snoc]; exact own3
    · have e : g = g' := by
        have : v3.ownBlock = some g' := hg'
        rw [hv3] at this; injection this
      rcases at3 with h1 | h1
      · exact .inl (by rw [h1, e])
      · exact .inr (by omega)
  have ra : w3.ownsRow Bb 25 1 (.slice (some ⟨ag, 0, none⟩) n ca) n ((List.range n).map fun k => (E (.ia k)).v) := by
    rw [← hva]
    refine O1.out (x := .oa) ?_ (by simp)
    rw [put_other _ _ (by simp)]
    have := S.oa
    rw [h.ea] at this
    exact this
  have gea : Bb ≤ ag := (ra.lt ag rfl).1
  obtain ⟨r4, g4⟩ := ra.stored j v3
  rw [← hv3]
  refine ⟨?_, ?_⟩
  · rcases ra.2 with ⟨h', _⟩ | ⟨g', c', cur, h', _, h3, h4, _, h6, _⟩
    · cases h'
    · injection h' with q1 q2 q3
      injection q1 with q1
      injection q1 with q1
      subst q1
      have th := there_of_row h3 j (n := 1) (by omega)
      have e := World.ownsRow.cells ra rfl j _ (get_map _ n j hj)
      have hadd : (⟨ag, 0, none⟩ : Addr).add j = ⟨ag, j, none⟩ := by unfold Addr.add; split <;> simp_all
      rw [hadd] at e
      exact ⟨e, (th 0 (by omega)).2⟩
  · have B2 := B1.grow g4 (fun g' hg' => by injection hg' with e; rw [← e]; exact gea) hK
    have O2 : OW (w3.setCell ⟨ag, j, none⟩ v3) Bb (YtlpiokepagkahaaDoor.put (YtlpiokepagkahaaDoor.put E (.ia j) (hE v3 (PA j ++ [mk]))) .oa (sE va (((List.range n).map fun k => (E (.ia k)).v).set j v3))) := by
      have e0 : (YtlpiokepagkahaaDoor.put E (.ia j) (hE v3 (PA j ++ [mk])) .oa).v = va := by rw [put_other _ _ (by simp)]; exact h.ea
      refine O1.upd .oa _ (by rw [e0, hva]; exact g4) ?_ (fun g' hg' => .inl (by rw [e0]; exact hg'))
      show (w3.setCell ⟨ag, j, none⟩ v3).ownsRow Bb 25 1 va (((List.range n).map fun k => (E (.ia k)).v).set j v3).length _
      rw [List.length_set, List.length_map, List.length_range, hva]
      exact r4
    generalize hE2 : YtlpiokepagkahaaDoor.put (YtlpiokepagkahaaDoor.put E (.ia j) (hE v3 (PA j ++ [mk]))) .oa (sE va (((List.range n).map fun k => (E (.ia k)).v).set j v3)) = E2 at O2
    have a0 : E2 .oa = sE va (((List.range n).map fun k => (E (.ia k)).v).set j v3) := by rw [← hE2, put_same]
    have b0 : E2 .ob = E .ob := by rw [← hE2]; simp [YtlpiokepagkahaaDoor.put]
    have w0 : E2 .ow = E .ow := by rw [← hE2]; simp [YtlpiokepagkahaaDoor.put]
    have ai : E2 (.ia j) = hE v3 (PA j ++ [mk]) := by rw [← hE2]; simp [YtlpiokepagkahaaDoor.put]
    have ak : ∀ k, k ≠ j → E2 (.ia k) = E (.ia k) := fun k hk => by rw [← hE2]; simp [YtlpiokepagkahaaDoor.put, hk]
    have bk : ∀ k, E2 (.ib k) = E (.ib k) := fun k => by rw [← hE2]; simp [YtlpiokepagkahaaDoor.put]
    have wk : ∀ k, E2 (.iw k) = E (.iw k) := fun k => by rw [← hE2]; simp [YtlpiokepagkahaaDoor.put]
    have ma : ((List.range n).map fun k => (E2 (.ia k)).v) = ((List.range n).map fun k => (E (.ia k)).v).set j v3 := by
      apply List.ext_getElem?
      intro q
      by_cases hq : q = j
      · subst hq
        rw [List.getElem?_set_self (by simpa using hj), get_map _ _ _ hj, ai]; rfl
      · rw [List.getElem?_set_ne (by omega)]
        by_cases hqn : q < n
        · rw [get_map _ _ _ hqn, get_map _ _ _ hqn, ak q hq]
        · rw [List.getElem?_eq_none (by simpa using hqn), List.getElem?_eq_none (by simpa using hqn)]
    refine ⟨E2, ⟨B2.k, B2.bel, B2.rm, B2.hb, O2, by rw [ma, a0]; rfl, by simp only [bk, b0]; exact S.ob, by simp only [wk, w0]; exact S.oW, fun k hk => ?_, fun k hk => by rw [bk]; exact S.ib k hk, fun k hk => by rw [wk]; exact S.iw k hk, fun k hk => by rw [bk, wk, ak k (by omega)]; exact S.fr k hk⟩, by rw [a0]; rfl, by rw [b0]; exact h.eb, by rw [w0]; exact h.ew⟩
    by_cases e : k = j
    · subst e; rw [if_pos rfl, ai]; rfl
    · rw [if_neg e, ak k e]; exact S.ia k hk
/-- Row j of a, as a slice: any contents. -/
theorem PH.row (h : PH w Bb Mb mk P n va vb vw PA E wr) (hj : j < n) {L : Nat} (hL : L = (PA j).length) : ∃ ja jc, (E (.ia j)).v = .slice ja L jc := by
  have own := h.st.ai j hj
  rcases own.2 with ⟨h1, h2⟩ | ⟨g, c, cur, h1, _⟩
  · exact ⟨none, 0, by rw [h1, hL, h2]⟩
  · exact ⟨_, c, by rw [h1, hL]⟩
end
theorem PH.rowMk {w wr : World} {Bb Mb n q k LA jg jc : Nat} {mk : Hs} {PA P : Nat → List Hs} {E : Ix → Ent} {va vb vw : Value} (h : PH w Bb Mb mk P n va vb vw PA E wr) (hq : q < n) (hp : PA q = List.replicate LA mk) (hjv : (E (.ia q)).v = .slice (some ⟨jg, 0, none⟩) LA jc) (hk : k < LA) : wr.rangeAt jg (k * 32) (hv mk) := by
  have own := h.st.ai q hq
  obtain ⟨pa, pc, e, _, _, hP, _⟩ := own_path own
  rw [hjv] at e
  injection e with e1
  obtain ⟨b, off, e2, hr⟩ := hP k mk (by rw [hp, List.getElem?_replicate, if_pos hk])
  rw [← e1] at e2
  injection e2 with e2
  injection e2 with e3 e4
  subst e3 e4
  simpa using hr
end Go.Proofs.YtlpiokepagkahaaDoor
