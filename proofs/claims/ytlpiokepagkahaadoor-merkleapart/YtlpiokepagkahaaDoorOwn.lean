/- MerkleApart: many owned rows side by side, no two in one block. -/
import Derived.Test.YtlpiokepagkahaaDoorRAb
import Derived.Test.YtlpiokepagkahaaDoorSam
import Derived.Test.YtlpiokepagkahaaDoorFst
namespace Go.Proofs.YtlpiokepagkahaaDoor
set_option linter.unusedVariables false
set_option linter.unusedSimpArgs false
open Go.RowKit
inductive Ix
  | oa | ob | ow
  | ia (k : Nat) | ib (k : Nat) | iw (k : Nat)
deriving DecidableEq
structure Ent where
  v : Value
  ty : Nat
  size : Nat
  n : Nat
  xs : List Value
def Ent.own (e : Ent) (w : World) (B : Nat) : Prop := w.ownsRow B e.ty e.size e.v e.n e.xs
/-- Each is owned; no two lie in one block. -/
structure OW (w : World) (B : Nat) (E : Ix → Ent) : Prop where
  own : ∀ x, (E x).own w B
  apart : ∀ x y g, x ≠ y → (E x).v.ownBlock = some g → (E y).v.ownBlock ≠ some g
def put (E : Ix → Ent) (x : Ix) (e : Ent) : Ix → Ent := fun y => if y = x then e else E y
theorem put_same (E : Ix → Ent) (x : Ix) (e : Ent) : put E x e x = e := by simp [put]
theorem put_other (E : Ix → Ent) {x y : Ix} (e : Ent) (h : y ≠ x) : put E x e y = E y := by simp [put, h]
theorem grown_of_below {w w2 : World} (bq : Below w.heap.size w w2) : w.grownBy w2 none := ⟨bq.os, bq.tape, bq.output, bq.size, fun k hk _ => bq.block k hk⟩
theorem OW.next {w w2 : World} {B : Nat} {E : Ix → Ent} (h : OW w B E) (bq : Below w.heap.size w w2) : OW w2 B E := ⟨fun x => own_next (h.own x) bq, h.apart⟩
theorem OW.upd {w w2 : World} {B : Nat} {E : Ix → Ent} (h : OW w B E) (x : Ix) (e : Ent) (gr : w.grownBy w2 (E x).v.ownBlock) (he : e.own w2 B) (hb : ∀ g, e.v.ownBlock = some g → (E x).v.ownBlock = some g ∨ w.heap.size ≤ g) : OW w2 B (put E x e) := by
  refine ⟨fun y => ?_, fun y z g hne hy hz => ?_⟩
  · by_cases hyx : y = x
    · subst hyx; rw [put_same]; exact he
    · rw [put_other E e hyx]
      refine World.ownsRow.kept (h.own y) gr ?_
      cases hv : (E y).v.ownBlock with
      | none => exact .inl rfl
      | some g => exact .inr fun hh => h.apart y x g hyx hv hh.symm
  · by_cases hyx : y = x
    · subst hyx
      rw [put_same] at hy
      rw [put_other E e (fun hzx => hne hzx.symm)] at hz
      rcases hb g hy with h1 | h1
      · exact h.apart y z g hne h1 hz
      · have := ((h.own z).lt g hz).2; omega
    · rw [put_other E e hyx] at hy
      by_cases hzx : z = x
      · subst hzx
        rw [put_same] at hz
        rcases hb g hz with h1 | h1
        · exact h.apart y z g hne hy h1
        · have := ((h.own y).lt g hy).2; omega
      · rw [put_other E e hzx] at hz
        exact h.apart y z g hne hy hz
/-- A row that a callee made. -/
theorem OW.made {w w2 : World} {B : Nat} {E : Ix → Ent} (h : OW w B E) (x : Ix) (e : Ent) (bq : Below w.heap.size w w2) (hx : (E x).v.ownBlock = none) (he : e.own w2 w.heap.size) (hB : B ≤ w.heap.size) : OW w2 B (put E x e) := by
  refine h.upd x e (by rw [hx]; exact grown_of_below bq) ?_ (fun g hg => .inr (he.lt g hg).1)
  refine ⟨he.1, ?_⟩
  rcases he.2 with h1 | ⟨g', c', cur, h1, h2, h3⟩
  · exact .inl h1
  · exact .inr ⟨g', c', cur, h1, by omega, h3⟩
def nilE (x : Ix) : Ent := match x with
  | .oa | .ob | .ow => ⟨.slice none 0 0, 25, 1, 0, []⟩
  | _ => ⟨.slice none 0 0, 23, 32, 0, []⟩
theorem OW.start (w : World) (B : Nat) : OW w B nilE := ⟨fun x => by cases x <;> exact World.ownsRow_nil _ _ _ _, fun x y g _ hx => by cases x <;> simp [nilE, Value.ownBlock] at hx⟩
noncomputable def hE (v : Value) (l : List Hs) : Ent := ⟨v, 23, 32, l.length, flatL l⟩
def sE (v : Value) (l : List Value) : Ent := ⟨v, 25, 1, l.length, l⟩
theorem flatL_set : ∀ (l : List Hs) (k : Nat) (x : Hs), k < l.length → ∀ j, (flatL (l.set k x))[j]? = if k * 32 ≤ j ∧ j < k * 32 + 32 then (hv x)[j - k * 32]? else (flatL l)[j]? := fun l k x hk j => by
  by_cases hj : j < l.length * 32
  · have hq : j / 32 < l.length := by omega
    have e : j = j / 32 * 32 + j % 32 := by omega
    by_cases hin : k * 32 ≤ j ∧ j < k * 32 + 32
    · rw [if_pos hin]
      have hk2 : j / 32 = k := by omega
      have h1 : (l.set k x)[j / 32]? = some x := by rw [hk2, List.getElem?_set_self hk]
      have := flatL_get (l.set k x) (j / 32) (j % 32) x h1 (by omega)
      rw [← e] at this
      rw [this]
      congr 1
      omega
    · rw [if_neg hin]
      have hk2 : k ≠ j / 32 := by omega
      have h0 : l[j / 32]? = some l[j / 32] := List.getElem?_eq_getElem hq
      have h1 : (l.set k x)[j / 32]? = some l[j / 32] := by rw [List.getElem?_set_ne hk2, h0]
      have a1 := flatL_get (l.set k x) (j / 32) (j % 32) _ h1 (by omega)
      have a2 := flatL_get l (j / 32) (j % 32) _ h0 (by omega)
      rw [← e] at a1 a2
      rw [a1, a2]
  · rw [if_neg (by omega), List.getElem?_eq_none (by rw [flatL_length, List.length_set]; omega), List.getElem?_eq_none (by rw [flatL_length]; omega)]
/-- A hash laid into an owned row. -/
theorem own_set {w : World} {base g cap : Nat} {l : List Hs} (h : w.ownsRow base 23 32 (.slice (some ⟨g, 0, none⟩) l.length cap) l.length (flatL l)) (k : Nat) (hk : k < l.length) (x : Hs) :
    (w.setCells g (k * 32) (hv x)).ownsRow base 23 32 (.slice (some ⟨g, 0, none⟩) l.length cap) l.length (flatL (l.set k x)) ∧ w.grownBy (w.setCells g (k * 32) (hv x)) (some g) ∧ w.there g (k * 32) 32 := by
  rcases h.2 with ⟨h', _⟩ | ⟨g', cap', cur, h', h2, h3, h4, h5, h6, h7⟩
  · cases h'
  · injection h' with q1 q2 q3
    injection q1 with q1
    injection q1 with q1
    subst q1 q3
    refine ⟨⟨by rw [flatL_length, List.length_set], .inr ⟨g, cap, lay cur (k * 32) (hv x), rfl, h2, heap_setCells _ _ _ _ h3, h4, h5, by rw [lay_size]; exact h6, ?_⟩⟩, ?_, there_of_row h3 _ (by omega)⟩
    · apply List.ext_getElem?
      intro j
      rw [flatL_set l k x hk j]
      by_cases hj : j < l.length * 32
      · have hc : j < cur.size := by omega
        rw [List.getElem?_take_of_lt hj, Array.getElem?_toList, lay_get _ _ _ _ hc]
        have h8 : (flatL l)[j]? = cur[j]? := by rw [← h7, List.getElem?_take_of_lt hj, Array.getElem?_toList]
        by_cases hin : k * 32 ≤ j ∧ j < k * 32 + 32
        · rw [if_pos hin, if_pos hin.1, dif_pos (by rw [hv_length]; omega), List.getElem?_eq_getElem (by rw [hv_length]; omega)]
        · rw [if_neg hin, h8]
          by_cases h9 : k * 32 ≤ j
          · rw [if_pos h9, dif_neg (by rw [hv_length]; omega)]
          · rw [if_neg h9]
      · rw [List.getElem?_eq_none (by rw [List.length_take]; omega), if_neg (by omega), List.getElem?_eq_none (by rw [flatL_length]; omega)]
    · have bb : ∀ i, i ≠ g → (w.setCells g (k * 32) (hv x)).heap[i]? = w.heap[i]? := fun i hi => setCells_other w g hi _ _
      have b0 := below_setCells (B := 0) (w0 := w) (b := g) (Nat.zero_le _) (hv x) (k * 32) (Below.refl 0 w)
      exact ⟨b0.os, b0.tape, b0.output, b0.size, fun i _ hne => bb i (fun e => hne (by rw [e]))⟩
/-- What MerkleApart's walk keeps: the rows of a (what they hold: PA), of b and of want (P), the first i of each; the three lists of them; the mark. -/
structure ST (w : World) (Bb Mb : Nat) (mk : Hs) (PA P : Nat → List Hs) (i : Nat) (E : Ix → Ent) (wr : World) : Prop where
  k : KIn wr
  bel : Below w.heap.size w wr
  rm : wr.rangeAt Mb 0 (hv mk)
  hb : w.heap.size ≤ Bb ∧ Mb < Bb ∧ Bb ≤ wr.heap.size
  ow : OW wr Bb E
  oa : E .oa = sE (E .oa).v ((List.range i).map fun k => (E (.ia k)).v)
  ob : E .ob = sE (E .ob).v ((List.range i).map fun k => (E (.ib k)).v)
  oW : E .ow = sE (E .ow).v ((List.range i).map fun k => (E (.iw k)).v)
  ia : ∀ k, k < i → E (.ia k) = hE (E (.ia k)).v (PA k)
  ib : ∀ k, k < i → E (.ib k) = hE (E (.ib k)).v (P k)
  iw : ∀ k, k < i → E (.iw k) = hE (E (.iw k)).v (P k)
  fr : ∀ k, i ≤ k → (E (.ia k)).v.ownBlock = none ∧ (E (.ib k)).v.ownBlock = none ∧ (E (.iw k)).v.ownBlock = none
/-- What is beside the rows. -/
structure SB (w : World) (Bb Mb : Nat) (mk : Hs) (wr : World) : Prop where
  k : KIn wr
  bel : Below w.heap.size w wr
  rm : wr.rangeAt Mb 0 (hv mk)
  hb : w.heap.size ≤ Bb ∧ Mb < Bb ∧ Bb ≤ wr.heap.size
section
variable {w wr w2 : World} {Bb Mb i : Nat} {mk : Hs} {PA P : Nat → List Hs} {E : Ix → Ent}
theorem ST.sb (h : ST w Bb Mb mk PA P i E wr) : SB w Bb Mb mk wr := ⟨h.k, h.bel, h.rm, h.hb⟩
theorem SB.next (h : SB w Bb Mb mk wr) (bq : Below wr.heap.size wr w2) : SB w Bb Mb mk w2 := ⟨h.k.seq bq, below_seq h.bel bq, rangeNext h.rm bq, h.hb.1, h.hb.2.1, Nat.le_trans h.hb.2.2 bq.size⟩
theorem SB.grow {row : Option Nat} (h : SB w Bb Mb mk wr) (gr : wr.grownBy w2 row) (hr : ∀ g, row = some g → Bb ≤ g) (hK : KIn w) : SB w Bb Mb mk w2 := by
  have b := h.bel.grown gr h.bel.size (fun g hg => Nat.le_trans h.hb.1 (hr g hg))
  exact ⟨hK.below b hK.lt, b, grow_range gr h.rm (fun e => by have := hr Mb e.symm; have := h.hb; omega), h.hb.1, h.hb.2.1, Nat.le_trans h.hb.2.2 gr.size⟩
theorem ST.next (h : ST w Bb Mb mk PA P i E wr) (bq : Below wr.heap.size wr w2) : ST w Bb Mb mk PA P i E w2 :=
  ⟨(h.sb.next bq).k, (h.sb.next bq).bel, (h.sb.next bq).rm, (h.sb.next bq).hb, h.ow.next bq, h.oa, h.ob, h.oW, h.ia, h.ib, h.iw, h.fr⟩
end
/-- One list more by one row more. -/
theorem map_snoc (i : Nat) (f : Nat → Value) : (List.range (i + 1)).map f = (List.range i).map f ++ [f i] := by rw [List.range_succ, List.map_append]; rfl
theorem news_one (w : World) (x : Value) (T : TypeId) : ∀ j u, ([x] : List Value)[j]? = some u → (w.alloc (.cells #[x] T)).cell? ((⟨w.heap.size, 0, none⟩ : Addr).add j) = some u := fun j u hu =>
  World.news_of_block (cs := #[x]) (heap_alloc_new w _) j u hu
theorem OW.out {w : World} {B : Nat} {E : Ix → Ent} (h : OW w B E) {x : Ix} {v : Value} {xs : List Value} (hx : E x = sE v xs) {i : Nat} (hi : xs.length = i) : w.ownsRow B 25 1 v i xs := by
  have := h.own x
  rw [hx] at this
  subst hi
  exact this
theorem OW.inn {w : World} {B : Nat} {E : Ix → Ent} (h : OW w B E) {x : Ix} {v : Value} {l : List Hs} (hx : E x = hE v l) : w.ownsRow B 23 32 v l.length (flatL l) := by
  have := h.own x
  rw [hx] at this
  exact this
/-- A list of rows with one more. -/
theorem OW.add {w4 w5 : World} {B : Nat} {E : Ix → Ent} (h : OW w4 B E) (x : Ix) {v y : Value} {xs : List Value} (hx : E x = sE v xs) {i g c : Nat} (hi : xs.length = i) {o : Obj} (own5 : w5.ownsRow B 25 1 (.slice (some ⟨g, 0, none⟩) (i + 1) c) (i + 1) (xs ++ [y])) (gr : (w4.alloc o).grownBy w5 v.ownBlock) (at5 : v.ownBlock = some g ∨ g = (w4.alloc o).heap.size) :
    OW w5 B (put E x (sE (.slice (some ⟨g, 0, none⟩) (i + 1) c) (xs ++ [y]))) := by
  have hA := h.next ((Below.refl _ _).alloc (Nat.le_refl _) o)
  have hv : (E x).v = v := by rw [hx]; rfl
  refine hA.upd x _ (by rw [hv]; exact gr) ?_ (fun g' hg' => ?_)
  · show w5.ownsRow B 25 1 _ (xs ++ [y]).length (xs ++ [y])
    rw [List.length_append, hi]; exact own5
  · have e : g = g' := by injection hg'
    rw [hv]
    rcases at5 with h1 | h1
    · exact .inl (by rw [h1, e])
    · exact .inr (by omega)
theorem OW.row_ge {w : World} {B : Nat} {E : Ix → Ent} (h : OW w B E) {x : Ix} {v : Value} (hv : (E x).v = v) : ∀ g, v.ownBlock = some g → B ≤ g := fun g hg => ((h.own x).lt g (by rw [hv]; exact hg)).1
/-- One round of the first loop. -/
theorem ST.more {w wr w8 : World} {Bb Mb i : Nat} {mk : Hs} {P : Nat → List Hs} {E E3 : Ix → Ent} (S : ST w Bb Mb mk P P i E wr) {vp vq vr va vb vw : Value} {xa xb xw : List Value} (h3 : E3 = put (put E (.ia i) (hE vp (P i))) (.ib i) (hE vq (P i)))
    (hx : (xa = (List.range i).map fun k => (E (.ia k)).v) ∧ (xb = (List.range i).map fun k => (E (.ib k)).v) ∧ (xw = (List.range i).map fun k => (E (.iw k)).v)) (B : SB w Bb Mb mk w8)
    (O : OW w8 Bb (put (put (put (put E3 .oa (sE va (xa ++ [vp]))) .ob (sE vb (xb ++ [vq]))) (.iw i) (hE vr (P i))) .ow (sE vw (xw ++ [vr])))) :
    ∃ E8 : Ix → Ent, va = (E8 .oa).v ∧ vb = (E8 .ob).v ∧ vw = (E8 .ow).v ∧ ST w Bb Mb mk P P (i + 1) E8 w8 := by
  obtain ⟨rfl, rfl, rfl⟩ := hx
  generalize hE8 : put (put (put (put E3 .oa (sE va (((List.range i).map fun k => (E (.ia k)).v) ++ [vp]))) .ob (sE vb (((List.range i).map fun k => (E (.ib k)).v) ++ [vq]))) (.iw i) (hE vr (P i))) .ow (sE vw (((List.range i).map fun k => (E (.iw k)).v) ++ [vr])) = E8 at O
  subst h3
  have a0 : E8 .oa = sE va (((List.range i).map fun k => (E (.ia k)).v) ++ [vp]) := by rw [← hE8]; simp [put]
  have b0 : E8 .ob = sE vb (((List.range i).map fun k => (E (.ib k)).v) ++ [vq]) := by rw [← hE8]; simp [put]
  have w0 : E8 .ow = sE vw (((List.range i).map fun k => (E (.iw k)).v) ++ [vr]) := by rw [← hE8]; simp [put]
  have ai : E8 (.ia i) = hE vp (P i) := by rw [← hE8]; simp [put]
  have bi : E8 (.ib i) = hE vq (P i) := by rw [← hE8]; simp [put]
  have wi : E8 (.iw i) = hE vr (P i) := by rw [← hE8]; simp [put]
  have ak : ∀ k, k ≠ i → E8 (.ia k) = E (.ia k) := fun k hk => by rw [← hE8]; simp [put, hk]
  have bk : ∀ k, k ≠ i → E8 (.ib k) = E (.ib k) := fun k hk => by rw [← hE8]; simp [put, hk]
  have wk : ∀ k, k ≠ i → E8 (.iw k) = E (.iw k) := fun k hk => by rw [← hE8]; simp [put, hk]
  clear hE8
  have ma : ((List.range (i + 1)).map fun k => (E8 (.ia k)).v) = ((List.range i).map fun k => (E (.ia k)).v) ++ [vp] := by
    rw [map_snoc, ai]
    congr 1
    exact List.map_congr_left fun k hk => by rw [ak k (by have := List.mem_range.mp hk; omega)]
  have mb : ((List.range (i + 1)).map fun k => (E8 (.ib k)).v) = ((List.range i).map fun k => (E (.ib k)).v) ++ [vq] := by
    rw [map_snoc, bi]
    congr 1
    exact List.map_congr_left fun k hk => by rw [bk k (by have := List.mem_range.mp hk; omega)]
  have mw : ((List.range (i + 1)).map fun k => (E8 (.iw k)).v) = ((List.range i).map fun k => (E (.iw k)).v) ++ [vr] := by
    rw [map_snoc, wi]
    congr 1
    exact List.map_congr_left fun k hk => by rw [wk k (by have := List.mem_range.mp hk; omega)]
  refine ⟨E8, by rw [a0]; rfl, by rw [b0]; rfl, by rw [w0]; rfl, B.k, B.bel, B.rm, B.hb, O, by rw [ma, a0]; rfl, by rw [mb, b0]; rfl, by rw [mw, w0]; rfl, fun k hk => ?_, fun k hk => ?_, fun k hk => ?_, fun k hk => ?_⟩
  · by_cases h : k = i
    · subst h; rw [ai]; rfl
    · rw [ak k h]; exact S.ia k (by omega)
  · by_cases h : k = i
    · subst h; rw [bi]; rfl
    · rw [bk k h]; exact S.ib k (by omega)
  · by_cases h : k = i
    · subst h; rw [wi]; rfl
    · rw [wk k h]; exact S.iw k (by omega)
  · rw [ak k (by omega), bk k (by omega), wk k (by omega)]; exact S.fr k (by omega)
/-- A list of rows as a slice. -/
theorem own_out {w : World} {B n : Nat} {v : Value} {xs : List Value} (h : w.ownsRow B 25 1 v n xs) : ∃ a c, v = .slice a n c ∧ n ≤ c ∧ c ≤ maxLen ∧ ∀ k x, xs[k]? = some x → ∃ g, a = some ⟨g, 0, none⟩ ∧ w.cell? ⟨g, k, none⟩ = some x := by
  have h1 := h.1
  rcases h.2 with ⟨rfl, rfl⟩ | ⟨g, c, cur, rfl, hb, hg, h4, h5, h6, h7⟩
  · refine ⟨none, 0, rfl, Nat.le_refl _, by simp [maxLen], fun k x hk => ?_⟩
    have := (List.getElem?_eq_some_iff.mp hk).1
    omega
  · refine ⟨_, c, rfl, h4, h5, fun k x hk => ⟨g, rfl, ?_⟩⟩
    have e := World.ownsRow.cells h rfl k x hk
    have hadd : (⟨g, 0, none⟩ : Addr).add k = ⟨g, k, none⟩ := by unfold Addr.add; split <;> simp_all
    rw [hadd] at e
    exact e
end Go.Proofs.YtlpiokepagkahaaDoor
