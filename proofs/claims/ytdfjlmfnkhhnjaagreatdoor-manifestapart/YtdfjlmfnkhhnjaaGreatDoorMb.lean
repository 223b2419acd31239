import Derived.Test.YtdfjlmfnkhhnjaaGreatDoorMa
import Derived.Test.YtdfjlmfnkhhnjaaGreatDoorGv
import Derived.Deep.RegionHeld3
import Derived.BigRegion
/- ManifestApart: four lists of items that lie apart. -/
namespace Go.Proofs.YtdfjlmfnkhhnjaaGreatDoor
set_option maxRecDepth 100000
set_option linter.unusedVariables false
set_option linter.unusedSimpArgs false
open Go.RowKit
open Stk (Ot own_cellT pcells_set)
theorem gset {α : Type} {R : List α} {k j : Nat} {r' q : α} (h : (R.set k r')[j]? = some q) : (j = k ∧ q = r') ∨ (¬ j = k ∧ R[j]? = some q) := by
  by_cases e : j = k
  · subst e
    have hl := (List.getElem?_eq_some_iff.1 h).1
    rw [List.getElem?_set_self (by simpa using hl)] at h
    injection h with h
    exact .inl ⟨rfl, h.symm⟩
  · rw [List.getElem?_set_ne (fun q => e q.symm)] at h
    exact .inr ⟨e, h⟩
theorem rics_cons (q : Ri) (l : List Ri) : rics (q :: l) = ri q ++ rics l := by simp [rics]
theorem rics_setG : ∀ (R : List Ri) (k : Nat) (r r' : Ri) (i : Nat) (v : Value), R[k]? = some r → i < 37 → ri r' = (ri r).set i v → rics (R.set k r') = (rics R).set (k * 37 + i) v
  | [], k, r, r', i, v, h, _, _ => by simp at h
  | q :: l, 0, r, r', i, v, h, hi, e => by
    simp at h
    subst h
    rw [List.set_cons_zero, rics_cons, rics_cons, e, Nat.zero_mul, Nat.zero_add, List.set_append_left _ _ (by rw [ri_len]; exact hi)]
  | q :: l, k + 1, r, r', i, v, h, hi, e => by
    have := rics_setG l k r r' i v (by simpa using h) hi e
    rw [List.set_cons_succ, rics_cons, rics_cons, this, List.set_append_right _ _ (by rw [ri_len]; omega), ri_len, show (k + 1) * 37 + i - 37 = k * 37 + i by omega]
theorem rics_setl : ∀ (R : List Ri) (k : Nat) (r r' : Ri), R[k]? = some r → ri r' = ri r → rics (R.set k r') = rics R
  | [], k, r, r', h, _ => by simp at h
  | q :: l, 0, r, r', h, e => by
    simp at h
    subst h
    rw [List.set_cons_zero, rics_cons, rics_cons, e]
  | q :: l, k + 1, r, r', h, e => by
    rw [List.set_cons_succ, rics_cons, rics_cons, rics_setl l k r r' (by simpa using h) e]
theorem cell_of_heap {w w' : World} {b j : Nat} (h : w'.heap[b]? = w.heap[b]?) : w'.cell? ⟨b, j, none⟩ = w.cell? ⟨b, j, none⟩ := by
  unfold World.cell?
  simp only [h]
theorem froz_of_heap {w w' : World} {b j : Nat} (h : w'.heap[b]? = w.heap[b]?) : w'.frozen? ⟨b, j, none⟩ = w.frozen? ⟨b, j, none⟩ := by
  unfold World.frozen?
  simp only [h]
/-- an item without pairs more; where the row then lies -/
theorem run_ri2 {base : Nat} {w : World} {v : Value} {R : List Ri} (ty : TypeId) (r : Ri) (hF : Fi base w v R) (hm : r.mv = .slice none 0 0) (hl : r.1.l = []) (hn : R.length ≤ 1000000000000) :
    ∃ g' c' w', (Builtin.append_ #[26, 26] ty #[v, .slice (some ⟨w.heap.size, 0, none⟩) 1 1]).run Tryz.prog (w.alloc (.cells (ri r).toArray 46)) = .ok (.slice (some ⟨g', 0, none⟩) (R.length + 1) c') w' ∧ Fi base w' (.slice (some ⟨g', 0, none⟩) (R.length + 1) c') (R ++ [r]) ∧ Below base w w' ∧ (∀ x, x < w.heap.size → v.ownBlock ≠ some x → w'.heap[x]? = w.heap[x]?) ∧ (v.ownBlock = some g' ∨ w.heap.size ≤ g') := by
  have hle := hF.le
  have ho : Ow w.heap.size w r.mv r.1.l := by rw [hm, hl]; exact Ow.nil w w.heap.size (Nat.le_refl _)
  obtain ⟨g', c', w', hrun, h1, h2, h3⟩ := run_ri ty r hF (B := w.heap.size) (fun i p hp b hb => ((hF.met i p hp).own.lt b hb).2) hle ho hn
  obtain ⟨i0, hi, hz0, hz1, hz2⟩ := info_parts infoIf
  have hmx : maxLen = 9223372036854775807 := rfl
  obtain ⟨g2, cap2, w2, hr2, hown, hgrow, hat, hlt⟩ := run_append_lies (P := Tryz.prog) (w := w.alloc (.cells (ri r).toArray 46)) 26 ty base 46 i0 _ 37 96 Tryz.underlying26 hi hz0 hz1 hz2 rfl (by omega) v R.length (rics R) (hF.own.alloc _) ⟨w.heap.size, 0, none⟩ 1 1 (ri r) (by rw [ri_len])
    (World.news_of_block (cs := (ri r).toArray) (t := 46) (fr := (0, 0)) (heap_alloc_new w _)) (ic_one _ _ _) (by omega) (by rw [hmx]; omega) (by omega) (by simp; omega) _ rfl
  rw [hrun] at hr2
  injection hr2 with e1 e2
  injection e1 with e1
  injection e1 with e1
  injection e1 with e1
  subst e1
  refine ⟨g', c', w', hrun, h1, h2, h3, ?_⟩
  rcases hat with q | q
  · exact .inl q
  · right; rw [q]; simp
/-- the blocks of a row of items -/
def Ti (v : Value) (R : List Ri) (g : Nat) : Prop := v.ownBlock = some g ∨ ∃ (k : Nat) (r : Ri), R[k]? = some r ∧ r.mv.ownBlock = some g
theorem Fi.vm {B : Nat} {w : World} {v : Value} {R : List Ri} (h : Fi B w v R) {k : Nat} {r : Ri} (hk : R[k]? = some r) {g : Nat} (hg : v.ownBlock = some g) : r.mv.ownBlock ≠ some g := own_apart h.own (h.met k r hk).own (by decide) hg
theorem Fi.mv {B : Nat} {w : World} {v : Value} {R : List Ri} (h : Fi B w v R) {k : Nat} {r : Ri} (hk : R[k]? = some r) {g : Nat} (hg : r.mv.ownBlock = some g) : v.ownBlock ≠ some g := own_apart (h.met k r hk).own h.own (by decide) hg
/-- one cell of an item set, its pairs as they lie -/
theorem Fi.setC {B : Nat} {w : World} {g cap n : Nat} {R : List Ri} (h : Fi B w (.slice (some ⟨g, 0, none⟩) n cap) R) (hn : n = R.length) {k : Nat} {r r' : Ri} (hk : R[k]? = some r) {i : Nat} {v : Value} (hi : i < 37) (he : ri r' = (ri r).set i v) (hm : r'.mv = r.mv) (hl : r'.1.l = r.1.l) :
    Fi B (w.setCell ⟨g, k * 37 + i, none⟩ v) (.slice (some ⟨g, 0, none⟩) n cap) (R.set k r') := by
  subst hn
  have oth : ∀ {x : Value} {l : List En}, Ow B w x l → x.ownBlock ≠ some g → Ow B (w.setCell ⟨g, k * 37 + i, none⟩ v) x l := fun ho hne => ho.stay (by simp) (fun b hb => hso _ _ (fun e => hne (by rw [← e]; exact hb)))
  refine ⟨?_, by simpa using h.le, fun j q hq => ?_, fun i' j q q' hij hq hq' b hb => ?_⟩
  · rw [List.length_set, rics_setG R k r r' i v hk hi he]
    exact own_cellT h.own _ _
  · rcases gset hq with ⟨rfl, rfl⟩ | ⟨_, hq⟩
    · rw [hm, hl]; exact oth (h.met j r hk) (h.vm hk rfl)
    · exact oth (h.met j q hq) (h.vm hq rfl)
  · rcases gset hq with ⟨rfl, rfl⟩ | ⟨_, hq1⟩
    · rcases gset hq' with ⟨rfl, rfl⟩ | ⟨_, hq'⟩
      · exact absurd rfl hij
      · exact h.par i' j r q' hij hk hq' b (by rw [← hm]; exact hb)
    · rcases gset hq' with ⟨rfl, rfl⟩ | ⟨_, hq'⟩
      · rw [hm]; exact h.par i' j q r hij hq1 hk b hb
      · exact h.par i' j q q' hij hq1 hq' b hb
theorem mv_set (x : It) (a : Option Addr) (c q : Nat) (p : En) : Ri.mv ({ x with l := x.l.set q p }, a, c) = Ri.mv (x, a, c) := by unfold Ri.mv; simp
/-- a pair set -/
theorem Fi.setPair {B : Nat} {w : World} {v : Value} {R : List Ri} (h : Fi B w v R) {k : Nat} {x : It} {mb c : Nat} (hk : R[k]? = some (x, some ⟨mb, 0, none⟩, c)) {q : Nat} (hn : q < x.l.length) (p : En) :
    Fi B ((w.setCell ⟨mb, q * 2, none⟩ (str p.key)).setCell ⟨mb, q * 2 + 1, none⟩ (str p.val)) v (R.set k ({ x with l := x.l.set q p }, some ⟨mb, 0, none⟩, c)) := by
  have hb : (Ri.mv (x, some ⟨mb, 0, none⟩, c)).ownBlock = some mb := rfl
  have hlen : (x.l.set q p).length = x.l.length := List.length_set
  have hmv := mv_set x (some ⟨mb, 0, none⟩) c q p
  have oth : ∀ k', k' ≠ mb → ((w.setCell ⟨mb, q * 2, none⟩ (str p.key)).setCell ⟨mb, q * 2 + 1, none⟩ (str p.val)).heap[k']? = w.heap[k']? := fun k' hne => (hso _ _ hne).trans (hso _ _ hne)
  refine ⟨?_, by simpa using h.le, fun j q' hq => ?_, fun i j q' q'' hij hq hq' b hb2 => ?_⟩
  · rw [List.length_set, rics_setl R k _ ({ x with l := x.l.set q p }, some ⟨mb, 0, none⟩, c) hk (by simp [ri, ic])]
    exact own_keep h.own (fun g hg => oth g (fun e => h.mv hk hb (by rw [← e]; exact hg)))
  · rcases gset hq with ⟨rfl, rfl⟩ | ⟨hj, hq⟩
    · have ho := h.met j _ hk
      refine ⟨?_, by simpa using ho.le⟩
      have ho := ho.own
      have ho : w.ownsRow B 49 2 (.slice (some ⟨mb, 0, none⟩) x.l.length c) x.l.length (pcells x.l) := ho
      rw [hmv]
      show World.ownsRow _ B 49 2 (.slice (some ⟨mb, 0, none⟩) x.l.length c) (x.l.set q p).length (pcells (x.l.set q p))
      rw [hlen, pcells_set _ _ _ hn]
      exact own_cellT (own_cellT ho _ _) _ _
    · have hne := h.par k j _ q' (fun e => hj e.symm) hk hq mb hb
      exact (h.met j q' hq).stay (by simp) (fun b hb => oth b (fun e => hne (by rw [← e]; exact hb)))
  · rcases gset hq with ⟨rfl, rfl⟩ | ⟨_, hq1⟩
    · rw [hmv] at hb2
      rcases gset hq' with ⟨rfl, rfl⟩ | ⟨_, hq'⟩
      · exact absurd rfl hij
      · exact h.par i j _ q'' hij hk hq' b hb2
    · rcases gset hq' with ⟨rfl, rfl⟩ | ⟨_, hq'⟩
      · rw [hmv]
        exact h.par i j q' _ hij hq1 hk b hb2
      · exact h.par i j q' q'' hij hq1 hq' b hb2
/-- an item's pairs grown -/
theorem Fi.setMeta {B : Nat} {w w' : World} {g cap n : Nat} {R : List Ri} (h : Fi B w (.slice (some ⟨g, 0, none⟩) n cap) R) (hn : n = R.length) {k : Nat} {r : Ri} (hk : R[k]? = some r) {g' c' : Nat} {l' : List En}
    (ho : Ow B w' (.slice (some ⟨g', 0, none⟩) l'.length c') l') (hs : w.heap.size ≤ w'.heap.size) (hf : ∀ b, b < w.heap.size → r.mv.ownBlock ≠ some b → w'.heap[b]? = w.heap[b]?) (hg : r.mv.ownBlock = some g' ∨ w.heap.size ≤ g') :
    Fi B (w'.setCell ⟨g, k * 37 + 4, none⟩ (.slice (some ⟨g', 0, none⟩) l'.length c')) (.slice (some ⟨g, 0, none⟩) n cap) (R.set k ({ r.1 with l := l' }, some ⟨g', 0, none⟩, c')) := by
  subst hn
  have hgB := h.own.lt g rfl
  have hgg : g' ≠ g := by
    rintro rfl
    rcases hg with q | q
    · exact h.vm hk rfl q
    · omega
  have h1 : w'.ownsRow B 46 37 (.slice (some ⟨g, 0, none⟩) R.length cap) R.length (rics R) := own_keep h.own (fun b hb => hf b (h.own.lt b hb).2 (h.vm hk hb))
  refine ⟨?_, by have := h.le; simp; omega, fun j q hq => ?_, fun i j q q' hij hq hq' b hb => ?_⟩
  · rw [List.length_set, rics_setG R k r ({ r.1 with l := l' }, some ⟨g', 0, none⟩, c') 4 (.slice (some ⟨g', 0, none⟩) l'.length c') hk (by decide) (by simp [ri, ic])]
    exact own_cellT h1 _ _
  · rcases gset hq with ⟨rfl, rfl⟩ | ⟨hj, hq⟩
    · show Ow B _ (.slice (some ⟨g', 0, none⟩) l'.length c') l'
      exact ho.stay (by simp) (fun b hb => hso _ _ (by
        have e : g' = b := by simpa [Value.ownBlock] using hb
        rw [← e]; exact hgg))
    · have hm := h.met j q hq
      exact hm.stay (by simpa using hs) (fun b hb => by
        rw [hso _ _ (fun e => h.vm hq (g := g) rfl (by rw [← e]; exact hb))]
        exact hf b (hm.own.lt b hb).2 (h.par j k q r hj hq hk b hb))
  · have key : ∀ (j : Nat) (q : Ri), ¬ j = k → R[j]? = some q → q.mv.ownBlock ≠ some g' := fun j q hj hq e => by
      rcases hg with x | x
      · exact h.par j k q r hj hq hk g' e x
      · have := ((h.met j q hq).own.lt g' e).2
        omega
    rcases gset hq with ⟨rfl, rfl⟩ | ⟨hi, hq1⟩
    · have e : b = g' := by simpa [Ri.mv, Value.ownBlock] using hb.symm
      subst e
      rcases gset hq' with ⟨rfl, rfl⟩ | ⟨hj, hq'⟩
      · exact absurd rfl hij
      · exact key j q' hj hq'
    · rcases gset hq' with ⟨rfl, rfl⟩ | ⟨_, hq'⟩
      · intro e
        have e : b = g' := by simpa [Ri.mv, Value.ownBlock] using e.symm
        subst e
        exact key i q hi hq1 hb
      · exact h.par i j q q' hij hq1 hq' b hb
theorem ti_set {v : Value} {R : List Ri} {k : Nat} {r r' : Ri} (hk : R[k]? = some r) {g s : Nat} (hr : ∀ b, r'.mv.ownBlock = some b → r.mv.ownBlock = some b ∨ s ≤ b) (h : Ti v (R.set k r') g) : Ti v R g ∨ s ≤ g := by
  rcases h with q | ⟨j, x, h1, h2⟩
  · exact .inl (.inl q)
  · rcases gset h1 with ⟨rfl, rfl⟩ | ⟨_, h1⟩
    · rcases hr g h2 with q | q
      · exact .inl (.inr ⟨j, r, hk, q⟩)
      · exact .inr q
    · exact .inl (.inr ⟨j, x, h1, h2⟩)
/-- a list of items: where it lies, what it holds -/
structure Ls where
  a : Option Addr
  c : Nat
  R : List Ri
def Ls.v (x : Ls) : Value := .slice x.a x.R.length x.c
/-- the box of the four -/
def A4 (w : World) (ga : Nat) (L : List Ls) : Prop := w.heap[ga]? = some (.cells (L.map Ls.v).toArray 42 (0, 0))
/-- four lists that lie apart, and what else stands -/
structure F4 (B E ga : Nat) (W w : World) (L : List Ls) : Prop where
  len : L.length = 4
  fi : ∀ (b : Nat) (x : Ls), L[b]? = some x → Fi B w x.v x.R
  new : ∀ (b : Nat) (x : Ls), L[b]? = some x → ∀ g, Ti x.v x.R g → g < E ∨ W.heap.size ≤ g
  sep : ∀ (b b' : Nat) (x y : Ls), ¬ b = b' → L[b]? = some x → L[b']? = some y → ∀ g, Ti x.v x.R g → ¬ Ti y.v y.R g
  box : A4 w ga L
  ot : Ot (fun g => (B ≤ g ∧ g < E) ∨ g = ga) W w
  lt : E ≤ ga ∧ ga < W.heap.size
theorem F4.later {B E ga : Nat} {W w w' : World} {L : List Ls} (h : F4 B E ga W w L) (hb : Below w.heap.size w w') : F4 B E ga W w' L :=
  ⟨h.len, fun b x hx => (h.fi b x hx).later hb, h.new, h.sep, by unfold A4; rw [hb.block ga (lt_of_block h.box)]; exact h.box, h.ot.trans (Ot.bel hb), h.lt⟩
theorem F4.nga {B E ga : Nat} {W w : World} {L : List Ls} (h : F4 B E ga W w L) {b : Nat} {x : Ls} (hx : L[b]? = some x) : ¬ Ti x.v x.R ga := fun q => by
  have hb := h.box
  unfold A4 at hb
  rcases q with q | ⟨k, r, h1, h2⟩
  · obtain ⟨cs, e⟩ := own_type (h.fi b x hx).own q
    rw [hb] at e
    injection e with e
    injection e with _ e
    exact absurd e (by decide)
  · obtain ⟨cs, e⟩ := own_type ((h.fi b x hx).met k r h1).own h2
    rw [hb] at e
    injection e with e
    injection e with _ e
    exact absurd e (by decide)
theorem F4.step {B E ga : Nat} {W w w' : World} {L : List Ls} (h : F4 B E ga W w L) {b : Nat} {x x' : Ls} (hx : L[b]? = some x) (h1 : Fi B w' x'.v x'.R) (hs : w.heap.size ≤ w'.heap.size) (he : w'.os = w.os ∧ w'.tape = w.tape ∧ w'.output = w.output)
    (h2 : ∀ g, g < w.heap.size → ¬ Ti x.v x.R g → ¬ g = ga → w'.heap[g]? = w.heap[g]?) (h3 : ∀ g, Ti x'.v x'.R g → Ti x.v x.R g ∨ w.heap.size ≤ g) (h4 : A4 w' ga (L.set b x')) : F4 B E ga W w' (L.set b x') := by
  have hsz := h.ot.size
  refine ⟨by rw [List.length_set]; exact h.len, fun j y hj => ?_, fun j y hj g hg => ?_, fun j k y z hjk hj hk g hg hg' => ?_, h4, ⟨he.1.trans h.ot.os, he.2.1.trans h.ot.tape, he.2.2.trans h.ot.output, Nat.le_trans hsz hs, fun k hk hn => ?_⟩, h.lt⟩
  · rcases gset hj with ⟨rfl, rfl⟩ | ⟨hne, hj⟩
    · exact h1
    · exact (h.fi j y hj).stay hs (fun g hg => h2 g ((h.fi j y hj).low hg).2 (h.sep j b y x hne hj hx g hg) (fun q => h.nga hj (q ▸ hg)))
  · rcases gset hj with ⟨rfl, rfl⟩ | ⟨hne, hj⟩
    · rcases h3 g hg with q | q
      · exact h.new j x hx g q
      · right; omega
    · exact h.new j y hj g hg
  · rcases gset hj with ⟨rfl, rfl⟩ | ⟨hne, hj1⟩
    · rcases gset hk with ⟨rfl, rfl⟩ | ⟨hne', hk⟩
      · exact absurd rfl hjk
      · rcases h3 g hg with q | q
        · exact h.sep j k x z hjk hx hk g q hg'
        · have := ((h.fi k z hk).low hg').2
          omega
    · rcases gset hk with ⟨rfl, rfl⟩ | ⟨hne', hk⟩
      · rcases h3 g hg' with q | q
        · exact h.sep j k y x hjk hj1 hx g hg q
        · have := ((h.fi j y hj1).low hg).2
          omega
      · exact h.sep j k y z hjk hj1 hk g hg hg'
  · refine (h2 k (by omega) (fun q => hn ?_) (fun q => hn (.inr q))).trans (h.ot.block k hk hn)
    have := (h.fi b x hx).low q
    rcases h.new b x hx k q with e | e
    · exact .inl ⟨this.1, e⟩
    · omega
theorem map_set_same {L : List Ls} {b : Nat} {x x' : Ls} (hx : L[b]? = some x) (hv : x'.v = x.v) : (L.set b x').map Ls.v = L.map Ls.v := by
  rw [List.map_set, hv]
  apply List.ext_getElem?
  intro i
  by_cases e : i = b
  · subst e
    have hl := (List.getElem?_eq_some_iff.1 hx).1
    rw [List.getElem?_set_self (by simpa using hl), List.getElem?_map, hx]; rfl
  · rw [List.getElem?_set_ne (fun q => e q.symm)]
theorem F4.arr {B E ga : Nat} {W w : World} {L : List Ls} (h : F4 B E ga W w L) {b : Nat} {x : Ls} (hx : L[b]? = some x) : w.cell? ⟨ga, b, none⟩ = some (.slice x.a x.R.length x.c) := by
  rw [cell_of_row _ _ _ _ _ _ h.box, List.getElem?_toArray, List.getElem?_map, hx]; rfl
theorem F4.fz {B E ga : Nat} {W w : World} {L : List Ls} (h : F4 B E ga W w L) (j : Nat) : w.frozen? ⟨ga, j, none⟩ = false := frozen_of_row _ _ _ _ _ h.box
/-- an item's place -/
theorem F4.row {B E ga : Nat} {W w : World} {L : List Ls} (h : F4 B E ga W w L) {b : Nat} {x : Ls} (hx : L[b]? = some x) {k : Nat} {r : Ri} (hr : x.R[k]? = some r) :
    ∃ g, x.a = some ⟨g, 0, none⟩ ∧ (∀ (j : Nat) (v : Value), (ri r)[j]? = some v → w.cell? ⟨g, k * 37 + j, none⟩ = some v) ∧ (∀ j, w.frozen? ⟨g, j, none⟩ = false) := by
  have hF := h.fi b x hx
  have hkl := (List.getElem?_eq_some_iff.1 hr).1
  have h0 := hF.own.2
  rcases h0 with ⟨e, e0⟩ | ⟨g, cp, cur, e, h2, h3, _⟩
  · omega
  · unfold Ls.v at e
    injection e with e1 e2 e3
    have ho := hF.own
    unfold Ls.v at ho
    rw [e1] at ho
    refine ⟨g, e1, fun j v hj => ?_, fun j => frozen_of_row _ _ _ _ _ h3⟩
    have hj2 : j < 37 := by have := (List.getElem?_eq_some_iff.1 hj).1; rw [ri_len] at this; exact this
    have hl := rics_len x.R
    rw [ho.cellAt _ (by omega), rics_get x.R k r hr j hj2]
    exact hj
/-- a pair's place -/
theorem F4.pr {B E ga : Nat} {W w : World} {L : List Ls} (h : F4 B E ga W w L) {b : Nat} {x : Ls} (hx : L[b]? = some x) {k : Nat} {r : Ri} (hr : x.R[k]? = some r) {q : Nat} (hq : q < r.1.l.length) :
    ∃ mb, r.2.1 = some ⟨mb, 0, none⟩ ∧ (∃ u0 u1, w.cell? ⟨mb, q * 2, none⟩ = some u0 ∧ w.cell? ⟨mb, q * 2 + 1, none⟩ = some u1) ∧ (∀ j, w.frozen? ⟨mb, j, none⟩ = false) := by
  have hO := (h.fi b x hx).met k r hr
  have h0 := hO.own.2
  rcases h0 with ⟨e, e0⟩ | ⟨g, cp, cur, e, h2, h3, _⟩
  · omega
  · unfold Ri.mv at e
    injection e with e1 e2 e3
    have ho := hO.own
    unfold Ri.mv at ho
    rw [e1] at ho
    have hl := pcells_length r.1.l
    have c : ∀ j, j < 2 → ∃ u, w.cell? ⟨g, q * 2 + j, none⟩ = some u := fun j hj => by
      have hj2 : q * 2 + j < (pcells r.1.l).length := by omega
      exact ⟨(pcells r.1.l)[q * 2 + j], by rw [ho.cellAt _ (by omega), List.getElem?_eq_getElem hj2]⟩
    obtain ⟨u0, c0⟩ := c 0 (by omega)
    obtain ⟨u1, c1⟩ := c 1 (by omega)
    exact ⟨g, e1, ⟨u0, u1, c0, c1⟩, fun j => frozen_of_row _ _ _ _ _ h3⟩
theorem ti_own {x : Ls} {g : Nat} (e : x.a = some ⟨g, 0, none⟩) : Ti x.v x.R g := .inl (by unfold Ls.v; rw [e]; rfl)
/-- an item's size set -/
theorem F4.size {B E ga : Nat} {W w : World} {L : List Ls} (h : F4 B E ga W w L) {b : Nat} {x : Ls} (hx : L[b]? = some x) {k : Nat} {r : Ri} (hr : x.R[k]? = some r) {g : Nat} (hg : x.a = some ⟨g, 0, none⟩) (s : Int) :
    F4 B E ga W (w.setCell ⟨g, k * 37 + 3, none⟩ (.int .i64 s)) (L.set b ⟨x.a, x.c, x.R.set k ({ r.1 with size := s }, r.2.1, r.2.2)⟩) := by
  have hF := h.fi b x hx
  have hv : Ls.v ⟨x.a, x.c, x.R.set k ({ r.1 with size := s }, r.2.1, r.2.2)⟩ = x.v := by unfold Ls.v; simp
  have hne : ga ≠ g := fun e => h.nga hx (by rw [e]; exact ti_own hg)
  refine h.step hx ?_ (by simp) ⟨rfl, rfl, rfl⟩ (fun j hj hn hn' => hso _ _ (fun e => hn (by rw [e]; exact ti_own hg))) (fun j hj => ?_) ?_
  · rw [hv]
    unfold Ls.v at hF ⊢
    rw [hg] at hF ⊢
    exact hF.setC rfl hr (r' := ({ r.1 with size := s }, r.2.1, r.2.2)) (by decide) (by simp [ri, ic]) rfl rfl
  · rw [hv] at hj
    exact (ti_set (s := w.heap.size) (r' := ({ r.1 with size := s }, r.2.1, r.2.2)) hr (fun b hb => .inl hb) hj)
  · unfold A4
    rw [map_set_same hx hv, hso _ _ hne]
    exact h.box
/-- a pair set -/
theorem F4.pair {B E ga : Nat} {W w : World} {L : List Ls} (h : F4 B E ga W w L) {b : Nat} {x : Ls} (hx : L[b]? = some x) {k : Nat} {r : Ri} (hr : x.R[k]? = some r) {mb q : Nat} (hm : r.2.1 = some ⟨mb, 0, none⟩) (hq : q < r.1.l.length) (p : En) :
    F4 B E ga W ((w.setCell ⟨mb, q * 2, none⟩ (str p.key)).setCell ⟨mb, q * 2 + 1, none⟩ (str p.val)) (L.set b ⟨x.a, x.c, x.R.set k ({ r.1 with l := r.1.l.set q p }, r.2.1, r.2.2)⟩) := by
  have hF := h.fi b x hx
  obtain ⟨y, ya, yc⟩ := r
  dsimp only at hm hq ⊢
  subst hm
  have hv : Ls.v ⟨x.a, x.c, x.R.set k ({ y with l := y.l.set q p }, some ⟨mb, 0, none⟩, yc)⟩ = x.v := by unfold Ls.v; simp
  have ht : Ti x.v x.R mb := .inr ⟨k, _, hr, rfl⟩
  have hne : ga ≠ mb := fun e => h.nga hx (by rw [e]; exact ht)
  refine h.step hx ?_ (by simp) ⟨rfl, rfl, rfl⟩ (fun j hj hn hn' => (hso _ _ (fun e => hn (by rw [e]; exact ht))).trans (hso _ _ (fun e => hn (by rw [e]; exact ht)))) (fun j hj => ?_) ?_
  · rw [hv]
    exact hF.setPair hr hq p
  · rw [hv] at hj
    exact (ti_set (s := w.heap.size) hr (fun b hb => .inl (by rw [mv_set] at hb; exact hb)) hj)
  · unfold A4
    rw [map_set_same hx hv, hso _ _ hne, hso _ _ hne]
    exact h.box
/-- a pair behind an item's pairs -/
theorem F4.grow {B E ga : Nat} {W w : World} {L : List Ls} (h : F4 B E ga W w L) {b : Nat} {x : Ls} (hx : L[b]? = some x) {k : Nat} {r : Ri} (hr : x.R[k]? = some r) {g : Nat} (hg : x.a = some ⟨g, 0, none⟩) (hn : r.1.l.length ≤ 1000000) (p : En) :
    ∃ g' c' w', (Builtin.append_ #[43, 43] 43 #[.slice r.2.1 r.1.l.length r.2.2, .slice (some ⟨w.heap.size, 0, none⟩) 1 1]).run Tryz.prog (w.alloc (.cells #[str p.key, str p.val] 49)) = .ok (.slice (some ⟨g', 0, none⟩) (r.1.l.length + 1) c') w' ∧
      (∀ j, w'.frozen? ⟨g, j, none⟩ = false) ∧ (∃ u, w'.cell? ⟨g, k * 37 + 4, none⟩ = some u) ∧ w'.cell? ⟨ga, b, none⟩ = some (.slice x.a x.R.length x.c) ∧ F4 B E ga W (w'.setCell ⟨g, k * 37 + 4, none⟩ (.slice (some ⟨g', 0, none⟩) (r.1.l.length + 1) c')) (L.set b ⟨x.a, x.c, x.R.set k ({ r.1 with l := r.1.l ++ [p] }, some ⟨g', 0, none⟩, c')⟩) := by
  have hF := h.fi b x hx
  have hO := hF.met k r hr
  have hmv : r.mv = .slice r.2.1 r.1.l.length r.2.2 := rfl
  rw [hmv] at hO
  obtain ⟨i0, hi0, hz0, hz1, hz2⟩ := infoP
  have hmx : maxLen = 9223372036854775807 := rfl
  obtain ⟨g2, cap2, w', hrun, hown, hgrow, hat, hlt⟩ := run_append_lies (P := Tryz.prog) (w := w.alloc (.cells #[str p.key, str p.val] 49)) 43 43 B 49 i0 _ 2 32 Tryz.underlying43 hi0 hz0 hz1 hz2 rfl (by omega) _ r.1.l.length (pcells r.1.l) (hO.own.alloc _) ⟨w.heap.size, 0, none⟩ 1 1 (pcs p) rfl
    (World.news_of_block (cs := #[str p.key, str p.val]) (t := 49) (fr := (0, 0)) (heap_alloc_new w _)) (by simp [pcs, Value.oneCell']) (by omega) (by rw [hmx]; omega) (by omega) (by have := hO.le; simp; omega) _ rfl
  have hb : Below B w w' := ((Below.refl _ _).alloc hO.le _).trans (grown_below (hO.own.alloc _) (by have := hO.le; simp; omega) hgrow)
  have hkk : ∀ b, b < w.heap.size → r.mv.ownBlock ≠ some b → w'.heap[b]? = w.heap[b]? := fun b hb1 hne => by
    rw [hmv] at hne
    rw [hgrow.block b (by simp; omega) (Ne.symm hne)]
    first | exact heap_alloc_old _ _ hb1 | exact heap_alloc_old _ _ _ hb1
  have ho2 : Ow B w' (.slice (some ⟨g2, 0, none⟩) (r.1.l ++ [p]).length cap2) (r.1.l ++ [p]) := by
    refine ⟨?_, Nat.le_trans hO.le hb.size⟩
    rw [pcells_append, List.length_append]
    have : pcells [p] = pcs p := by simp [pcells]
    rw [this]; exact hown
  have hg2 : r.mv.ownBlock = some g2 ∨ w.heap.size ≤ g2 := by
    rw [hmv]
    rcases hat with q | q
    · exact .inl q
    · right; rw [q]; simp
  have hto := ti_own hg
  have hgl := hF.low hto
  have hgg : w'.heap[g]? = w.heap[g]? := hkk g hgl.2 (hF.vm hr (by unfold Ls.v; rw [hg]; rfl))
  have hnga : ga ≠ g := fun e => h.nga hx (by rw [e]; exact hto)
  have hv : Ls.v ⟨x.a, x.c, x.R.set k ({ r.1 with l := r.1.l ++ [p] }, some ⟨g2, 0, none⟩, cap2)⟩ = x.v := by unfold Ls.v; simp
  have hlen : (r.1.l ++ [p]).length = r.1.l.length + 1 := by simp
  obtain ⟨g3, e3, hcell, hfz⟩ := h.row hx hr
  rw [hg] at e3
  injection e3 with e3
  injection e3 with e3
  subst e3
  refine ⟨g2, cap2, w', hrun, fun j => ?_, ⟨_, by rw [cell_of_heap hgg]; exact hcell 4 _ (by unfold ri ic; rfl)⟩, (cell_of_heap (hkk ga (by have := h.lt; have := h.ot.size; omega) (fun q => h.nga hx (.inr ⟨k, r, hr, q⟩)))).trans (h.arr hx), h.step hx ?_ (by simpa using hb.size) ⟨hb.os, hb.tape, hb.output⟩ (fun j hj hn' hn2 => ?_) (fun j hj => ?_) ?_⟩
  · rw [froz_of_heap hgg]; exact hfz j
  · rw [hv]
    have h9 := hF
    unfold Ls.v at h9 ⊢
    rw [hg] at h9 ⊢
    have := h9.setMeta rfl hr ho2 hb.size hkk hg2
    rw [hlen] at this
    exact this
  · rw [hso _ _ (fun e => hn' (by rw [e]; exact hto))]
    exact hkk j hj (fun q => hn' (.inr ⟨k, r, hr, q⟩))
  · rw [hv] at hj
    refine ti_set (s := w.heap.size) hr (fun b hb => ?_) hj
    have e : g2 = b := by simpa [Ri.mv, Value.ownBlock] using hb
    rw [← e]; exact hg2
  · unfold A4
    rw [map_set_same hx hv, hso _ _ hnga]
    exact (hkk ga (by have := h.lt; have := h.ot.size; omega) (fun q => h.nga hx (.inr ⟨k, r, hr, q⟩))).trans h.box
/-- an item behind a list -/
theorem F4.more {B E ga : Nat} {W w : World} {L : List Ls} (h : F4 B E ga W w L) {b : Nat} {x : Ls} (hx : L[b]? = some x) (hn : x.R.length ≤ 1000000) (y : It) (hy : y.l = []) :
    ∃ g' c' w', (Builtin.append_ #[26, 26] 26 #[.slice x.a x.R.length x.c, .slice (some ⟨w.heap.size, 0, none⟩) 1 1]).run Tryz.prog (w.alloc (.cells (ri (y, none, 0)).toArray 46)) = .ok (.slice (some ⟨g', 0, none⟩) (x.R.length + 1) c') w' ∧
      (∀ j, w'.frozen? ⟨ga, j, none⟩ = false) ∧ w'.cell? ⟨ga, b, none⟩ = some (.slice x.a x.R.length x.c) ∧ F4 B E ga W (w'.setCell ⟨ga, b, none⟩ (.slice (some ⟨g', 0, none⟩) (x.R.length + 1) c')) (L.set b ⟨some ⟨g', 0, none⟩, c', x.R ++ [(y, none, 0)]⟩) := by
  have hF := h.fi b x hx
  have hbl := (List.getElem?_eq_some_iff.1 hx).1
  obtain ⟨g', c', w', hrun, hF2, hb, hk, hat⟩ := run_ri2 26 (y, none, 0) hF (show Ri.mv (y, none, 0) = .slice none 0 0 by unfold Ri.mv; rw [hy]; rfl) hy (by omega)
  have hgal : ga < w.heap.size := by have := h.lt; have := h.ot.size; omega
  have hnga := h.nga hx
  have hgg : w'.heap[ga]? = w.heap[ga]? := hk ga hgal (fun q => hnga (.inl q))
  have hlen : (x.R ++ [((y, none, 0) : Ri)]).length = x.R.length + 1 := by simp
  have ht2 : ∀ g, Ti (.slice (some ⟨g', 0, none⟩) (x.R.length + 1) c') (x.R ++ [((y, none, 0) : Ri)]) g → Ti x.v x.R g ∨ w.heap.size ≤ g := fun g hg => by
    rcases hg with q | ⟨k, r, h1, h2⟩
    · have e : g' = g := by simpa [Value.ownBlock] using q
      subst e
      rcases hat with q | q
      · exact .inl (.inl q)
      · exact .inr q
    · by_cases hkl : k < x.R.length
      · rw [List.getElem?_append_left hkl] at h1
        exact .inl (.inr ⟨k, r, h1, h2⟩)
      · have hkl' : k = x.R.length := by
          have := (List.getElem?_eq_some_iff.1 h1).1
          simp at this; omega
        subst hkl'
        simp at h1
        subst h1
        unfold Ri.mv at h2
        cases h2
  have hx9 : x.v = .slice x.a x.R.length x.c := rfl
  rw [← hx9]
  refine ⟨g', c', w', hrun, fun j => ?_, ?_, h.step hx ?_ (by simpa using hb.size) ⟨hb.os, hb.tape, hb.output⟩ (fun j hj hn' hn2 => ?_) (fun j hj => ?_) ?_⟩
  · rw [froz_of_heap hgg]; exact h.fz j
  · rw [cell_of_heap hgg]; exact h.arr hx
  · unfold Ls.v
    dsimp only
    rw [hlen]
    refine hF2.stay (by simp) (fun g hg => hso _ _ (fun e => ?_))
    subst e
    rcases ht2 g hg with q | q
    · exact hnga q
    · omega
  · rw [hso _ _ hn2]
    exact hk j hj (fun q => hn' (.inl q))
  · unfold Ls.v at hj
    dsimp only at hj
    rw [hlen] at hj
    exact ht2 j hj
  · unfold A4
    have hbx := hgg.trans h.box
    rw [heap_setCell_same _ _ _ _ _ _ hbx, List.map_set]
    simp [Ls.v, hlen]
end Go.Proofs.YtdfjlmfnkhhnjaaGreatDoor

/- ManifestApart: what the four lists hold at each place of the loops. -/
namespace Go.Proofs.YtdfjlmfnkhhnjaaGreatDoor
set_option maxRecDepth 100000
set_option linter.unusedVariables false
set_option linter.unusedSimpArgs false
open Go.RowKit
open Stk (Ot)
/-- an item of the b-th list, marked -/
structure Dm (b : Nat) (x : It) : Prop where
  size : x.size = -1 - (b : Int)
  l : ∀ p ∈ x.l, p = prM b
/-- and grown -/
structure Dg (b : Nat) (x : It) : Prop where
  size : x.size = -1 - (b : Int)
  l : ∃ m, m ≤ 300 ∧ x.l = List.replicate m (prM b) ++ [prG b]
/-- the first a lists and the a-th's first i items are marked -/
def SA (n a i : Nat) (L : List Ls) : Prop := ∀ (b : Nat) (x : Ls), L[b]? = some x → x.R.length = n ∧ ∀ (j : Nat) (r : Ri), x.R[j]? = some r → r.1.l.length ≤ 299 ∧ ((b < a ∨ b = a ∧ j < i) → Dm b r.1)
theorem SA.keep {n a i : Nat} {L : List Ls} (h : SA n a i L) {x : Ls} (hx : L[a]? = some x) {r' : Ri} (hr' : r'.1.l.length ≤ 299) : SA n a i (L.set a ⟨x.a, x.c, x.R.set i r'⟩) := fun b y hy => by
  rcases gset hy with ⟨rfl, rfl⟩ | ⟨hne, hy⟩
  · obtain ⟨h1, h2⟩ := h b x hx
    refine ⟨by simpa using h1, fun j r hr => ?_⟩
    rcases gset hr with ⟨rfl, rfl⟩ | ⟨hj, hr⟩
    · exact ⟨hr', fun q => absurd q (by omega)⟩
    · exact h2 j r hr
  · exact h b y hy
theorem SA.fin {n a i : Nat} {L : List Ls} (h : SA n a i L) {x : Ls} (hx : L[a]? = some x) {r : Ri} (hr : x.R[i]? = some r) (hd : Dm a r.1) : SA n a (i + 1) L := fun b y hy => by
  obtain ⟨h1, h2⟩ := h b y hy
  refine ⟨h1, fun j r2 hr2 => ⟨(h2 j r2 hr2).1, fun q => ?_⟩⟩
  by_cases e : b = a ∧ j = i
  · obtain ⟨rfl, rfl⟩ := e
    rw [hx] at hy
    injection hy with hy
    subst hy
    rw [hr] at hr2
    injection hr2 with hr2
    subst hr2
    exact hd
  · exact (h2 j r2 hr2).2 (by omega)
theorem SA.next {n a : Nat} {L : List Ls} (h : SA n a n L) : SA n (a + 1) 0 L := fun b y hy => by
  obtain ⟨h1, h2⟩ := h b y hy
  refine ⟨h1, fun j r hr => ⟨(h2 j r hr).1, fun q => (h2 j r hr).2 ?_⟩⟩
  have := (List.getElem?_eq_some_iff.1 hr).1
  omega
/-- of the a-th list's i-th item the first q pairs are marked, of ℓ -/
def Mi (a i q ℓ : Nat) (L : List Ls) : Prop := ∃ x r, L[a]? = some x ∧ x.R[i]? = some r ∧ r.1.size = -1 - (a : Int) ∧ r.1.l.length = ℓ ∧ ∀ (s : Nat) (p : En), s < q → r.1.l[s]? = some p → p = prM a
theorem Mi.start {a i : Nat} {L : List Ls} {x : Ls} (hx : L[a]? = some x) {r : Ri} (hr : x.R[i]? = some r) : Mi a i 0 r.1.l.length (L.set a ⟨x.a, x.c, x.R.set i ({ r.1 with size := -1 - (a : Int) }, r.2.1, r.2.2)⟩) := by
  have h1 := (List.getElem?_eq_some_iff.1 hx).1
  have h2 := (List.getElem?_eq_some_iff.1 hr).1
  exact ⟨_, ({ r.1 with size := -1 - (a : Int) }, r.2.1, r.2.2), List.getElem?_set_self h1, List.getElem?_set_self h2, rfl, rfl, fun s p hs _ => absurd hs (Nat.not_lt_zero _)⟩
theorem Mi.next {a i q : Nat} {L : List Ls} {x : Ls} (hx : L[a]? = some x) {r : Ri} (hr : x.R[i]? = some r) {ℓ : Nat} (hs : r.1.size = -1 - (a : Int)) (hl : r.1.l.length = ℓ) (hq : ∀ (s : Nat) (p : En), s < q → r.1.l[s]? = some p → p = prM a) :
    Mi a i (q + 1) ℓ (L.set a ⟨x.a, x.c, x.R.set i ({ r.1 with l := r.1.l.set q (prM a) }, r.2.1, r.2.2)⟩) := by
  have h1 := (List.getElem?_eq_some_iff.1 hx).1
  have h2 := (List.getElem?_eq_some_iff.1 hr).1
  refine ⟨_, ({ r.1 with l := r.1.l.set q (prM a) }, r.2.1, r.2.2), List.getElem?_set_self h1, List.getElem?_set_self h2, hs, by rw [← hl]; exact List.length_set, fun s p hs' hp => ?_⟩
  have hp : (r.1.l.set q (prM a))[s]? = some p := hp
  rcases gset hp with ⟨_, e⟩ | ⟨hne, hp⟩
  · exact e
  · exact hq s p (by omega) hp
theorem Mi.dm {a i ℓ : Nat} {L : List Ls} (h : Mi a i ℓ ℓ L) {n : Nat} (hS : SA n a i L) : SA n a (i + 1) L := by
  obtain ⟨x, r, hx, hr, hs, hl, hq⟩ := h
  refine hS.fin hx hr ⟨hs, fun p hp => ?_⟩
  obtain ⟨j, hj, e⟩ := List.getElem_of_mem hp
  exact hq j p (by omega) (by rw [List.getElem?_eq_getElem hj, e])
/-- the first a lists are grown, of the a-th the first i items, and it is longer by q -/
def SB (n a i q : Nat) (L : List Ls) : Prop := ∀ (b : Nat) (x : Ls), L[b]? = some x → x.R.length = n + (if b < a then 16 else if b = a then q else 0) ∧ ∀ (j : Nat) (r : Ri), x.R[j]? = some r → (j < n → (b < a ∨ b = a ∧ j < i) → Dg b r.1) ∧ (j < n → ¬ (b < a ∨ b = a ∧ j < i) → Dm b r.1 ∧ r.1.l.length ≤ 299) ∧ (n ≤ j → r.1.seq = -9 - (b : Int))
theorem SA.sb {n : Nat} {L : List Ls} (h : SA n 4 0 L) (hL : L.length = 4) : SB n 0 0 0 L := fun b x hx => by
  obtain ⟨h1, h2⟩ := h b x hx
  have hb := (List.getElem?_eq_some_iff.1 hx).1
  refine ⟨by rw [h1, if_neg (Nat.not_lt_zero _)]; split <;> rfl, fun j r hr => ⟨fun _ q => absurd q (by omega), fun _ _ => ⟨(h2 j r hr).2 (by omega), (h2 j r hr).1⟩, fun q => ?_⟩⟩
  have := (List.getElem?_eq_some_iff.1 hr).1
  omega
theorem SB.at' {n a i q : Nat} {L : List Ls} (h : SB n a i q L) {x : Ls} (hx : L[a]? = some x) : x.R.length = n + q := by
  have := (h a x hx).1
  rwa [if_neg (Nat.lt_irrefl a), if_pos rfl] at this
theorem SB.set {n a i : Nat} {L : List Ls} (h : SB n a i 0 L) {x : Ls} (hx : L[a]? = some x) (hi : i < n) {r : Ri} (hr : x.R[i]? = some r) (ad : Option Addr) (c : Nat) : SB n a (i + 1) 0 (L.set a ⟨x.a, x.c, x.R.set i ({ r.1 with l := r.1.l ++ [prG a] }, ad, c)⟩) := fun b y hy => by
  rcases gset hy with ⟨rfl, rfl⟩ | ⟨hne, hy⟩
  · obtain ⟨h1, h2⟩ := h b x hx
    refine ⟨by simpa using h1, fun j r2 hr2 => ?_⟩
    rcases gset hr2 with ⟨rfl, rfl⟩ | ⟨hj, hr2⟩
    · obtain ⟨_, hd, _⟩ := h2 j r hr
      obtain ⟨hd, hl⟩ := hd hi (by omega)
      refine ⟨fun _ _ => ⟨hd.size, r.1.l.length, by omega, ?_⟩, fun _ q => absurd (by omega) q, fun q => absurd q (by omega)⟩
      show r.1.l ++ [prG b] = _
      rw [show r.1.l = List.replicate r.1.l.length (prM b) from List.eq_replicate_of_mem hd.l]
      simp
    · obtain ⟨q1, q2, q3⟩ := h2 j r2 hr2
      exact ⟨fun a1 a2 => q1 a1 (by omega), fun a1 a2 => q2 a1 (by omega), q3⟩
  · obtain ⟨h1, h2⟩ := h b y hy
    refine ⟨h1, fun j r2 hr2 => ?_⟩
    obtain ⟨q1, q2, q3⟩ := h2 j r2 hr2
    exact ⟨fun a1 a2 => q1 a1 (by omega), fun a1 a2 => q2 a1 (by omega), q3⟩
theorem SB.app {n a q : Nat} {L : List Ls} (h : SB n a n q L) {x : Ls} (hx : L[a]? = some x) (ad : Option Addr) (c : Nat) {y : It} (hy : y.seq = -9 - (a : Int)) : SB n a n (q + 1) (L.set a ⟨ad, c, x.R ++ [(y, none, 0)]⟩) := fun b z hz => by
  rcases gset hz with ⟨rfl, rfl⟩ | ⟨hne, hz⟩
  · obtain ⟨h1, h2⟩ := h b x hx
    rw [if_neg (Nat.lt_irrefl b), if_pos rfl] at h1 ⊢
    refine ⟨by simp [h1]; omega, fun j r hr => ?_⟩
    have hr : (x.R ++ [((y, none, 0) : Ri)])[j]? = some r := hr
    by_cases hjl : j < x.R.length
    · rw [List.getElem?_append_left hjl] at hr
      exact h2 j r hr
    · rw [List.getElem?_append_right (by omega)] at hr
      have e : r = (y, none, 0) := by
        have := List.mem_of_getElem? hr
        simpa using this
      subst e
      exact ⟨fun a1 _ => absurd a1 (by omega), fun a1 _ => absurd a1 (by omega), fun _ => hy⟩
  · have h3 := h b z hz
    rw [if_neg hne] at h3 ⊢
    exact h3
theorem SB.next {n a : Nat} {L : List Ls} (h : SB n a n 16 L) : SB n (a + 1) 0 0 L := fun b x hx => by
  obtain ⟨h1, h2⟩ := h b x hx
  refine ⟨?_, fun j r hr => ?_⟩
  · rw [h1]
    by_cases e : b < a
    · rw [if_pos e, if_pos (by omega)]
    · by_cases e2 : b = a
      · rw [if_neg e, if_pos e2, if_pos (by omega)]
      · rw [if_neg e, if_neg e2, if_neg (by omega)]; split <;> rfl
  · obtain ⟨q1, q2, q3⟩ := h2 j r hr
    exact ⟨fun a1 a2 => q1 a1 (by omega), fun a1 a2 => q2 a1 (by omega), q3⟩
theorem SB.fin {n : Nat} {L : List Ls} (h : SB n 4 0 0 L) (hL : L.length = 4) (hn : n ≤ 284) {b : Nat} {x : Ls} (hx : L[b]? = some x) : MkL b (x.R.map (·.1)) ∧ x.R.length = n + 16 := by
  obtain ⟨h1, h2⟩ := h b x hx
  have hb := (List.getElem?_eq_some_iff.1 hx).1
  rw [if_pos (by omega)] at h1
  have get : ∀ (k : Nat) (y : It), (x.R.map (·.1))[k]? = some y → ∃ r, x.R[k]? = some r ∧ r.1 = y := fun k y hk => by
    rw [List.getElem?_map] at hk
    cases hq : x.R[k]? with
    | none => rw [hq] at hk; cases hk
    | some r =>
      rw [hq] at hk
      simp at hk
      exact ⟨r, rfl, hk⟩
  have hlen : (x.R.map (·.1)).length = n + 16 := by rw [List.length_map, h1]
  refine ⟨⟨by omega, by omega, fun k y hk hk2 => ?_, fun k y hk hk2 => ?_⟩, h1⟩
  · obtain ⟨r, hr, rfl⟩ := get k y hk
    obtain ⟨hs, m, hm, hl⟩ := (h2 k r hr).1 (by omega) (.inl (by omega))
    exact ⟨hs, m, hm, hl⟩
  · obtain ⟨r, hr, rfl⟩ := get k y hk
    exact (h2 k r hr).2.2 (by omega)
/-- a list, told where its blocks lie -/
structure Lw (lo hi : Nat) (w : World) (x : Ls) : Prop where
  fi : Fi lo w x.v x.R
  rg : ∀ g, Ti x.v x.R g → g < hi
theorem Lw.new {lo : Nat} {w : World} {a : Option Addr} {c n : Nat} {R : List Ri} (h : Fi lo w (.slice a n c) R) (hn : R.length = n) : Lw lo w.heap.size w ⟨a, c, R⟩ := by
  subst hn
  exact ⟨h, fun g hg => (h.low hg).2⟩
theorem Lw.later {lo hi : Nat} {w w' : World} {x : Ls} (h : Lw lo hi w x) (hb : Below w.heap.size w w') : Lw lo hi w' x := ⟨h.fi.later hb, h.rg⟩
theorem Lw.it {lo hi : Nat} {w : World} {x : Ls} (h : Lw lo hi w x) {l : List It} (e : x.R.map (·.1) = l) : IIt w x.a l := by rw [← e]; exact Fi.it h.fi
theorem F4.start {B E ga : Nat} {W : World} {x1 x2 x3 x4 : Ls} {l2 l3 l4 e1 e2 e3 : Nat} (h1 : Lw B e1 W x1) (h2 : Lw l2 e2 W x2) (h3 : Lw l3 e3 W x3) (h4 : Lw l4 E W x4) (o1 : B ≤ e1 ∧ e1 ≤ l2) (o2 : l2 ≤ e2 ∧ e2 ≤ l3) (o3 : l3 ≤ e3 ∧ e3 ≤ l4) (o4 : l4 ≤ E) (hb : A4 W ga [x1, x2, x3, x4]) (hl : E ≤ ga) :
    F4 B E ga W W [x1, x2, x3, x4] := by
  have at' : ∀ (b : Nat) (x : Ls), [x1, x2, x3, x4][b]? = some x → (b = 0 ∧ x = x1) ∨ (b = 1 ∧ x = x2) ∨ (b = 2 ∧ x = x3) ∨ (b = 3 ∧ x = x4) := fun b x hx => by
    match b, hx with
    | 0, hx => simp at hx; exact .inl ⟨rfl, hx.symm⟩
    | 1, hx => simp at hx; exact .inr (.inl ⟨rfl, hx.symm⟩)
    | 2, hx => simp at hx; exact .inr (.inr (.inl ⟨rfl, hx.symm⟩))
    | 3, hx => simp at hx; exact .inr (.inr (.inr ⟨rfl, hx.symm⟩))
    | b + 4, hx => simp at hx
  have r1 : ∀ g, Ti x1.v x1.R g → B ≤ g ∧ g < e1 := fun g hg => ⟨(h1.fi.low hg).1, h1.rg g hg⟩
  have r2 : ∀ g, Ti x2.v x2.R g → l2 ≤ g ∧ g < e2 := fun g hg => ⟨(h2.fi.low hg).1, h2.rg g hg⟩
  have r3 : ∀ g, Ti x3.v x3.R g → l3 ≤ g ∧ g < e3 := fun g hg => ⟨(h3.fi.low hg).1, h3.rg g hg⟩
  have r4 : ∀ g, Ti x4.v x4.R g → l4 ≤ g ∧ g < E := fun g hg => ⟨(h4.fi.low hg).1, h4.rg g hg⟩
  refine ⟨rfl, fun b x hx => ?_, fun b x hx g hg => .inl ?_, fun b b' x y hne hx hy g hg hg' => ?_, hb, Ot.refl _ _, hl, lt_of_block hb⟩
  · rcases at' b x hx with ⟨_, rfl⟩ | ⟨_, rfl⟩ | ⟨_, rfl⟩ | ⟨_, rfl⟩
    · exact h1.fi
    · exact h2.fi.base (by omega)
    · exact h3.fi.base (by omega)
    · exact h4.fi.base (by omega)
  · rcases at' b x hx with ⟨_, rfl⟩ | ⟨_, rfl⟩ | ⟨_, rfl⟩ | ⟨_, rfl⟩
    · have := r1 g hg; omega
    · have := r2 g hg; omega
    · have := r3 g hg; omega
    · have := r4 g hg; omega
  · rcases at' b x hx with ⟨rfl, rfl⟩ | ⟨rfl, rfl⟩ | ⟨rfl, rfl⟩ | ⟨rfl, rfl⟩ <;> rcases at' b' y hy with ⟨rfl, rfl⟩ | ⟨rfl, rfl⟩ | ⟨rfl, rfl⟩ | ⟨rfl, rfl⟩
    all_goals first
      | exact hne rfl
      | (have p1 := r1 g (by assumption); have p2 := r2 g (by assumption); omega)
      | (have p1 := r1 g (by assumption); have p2 := r3 g (by assumption); omega)
      | (have p1 := r1 g (by assumption); have p2 := r4 g (by assumption); omega)
      | (have p1 := r2 g (by assumption); have p2 := r3 g (by assumption); omega)
      | (have p1 := r2 g (by assumption); have p2 := r4 g (by assumption); omega)
      | (have p1 := r3 g (by assumption); have p2 := r4 g (by assumption); omega)
/-- what is wanted: the document's rows, their pairs' own -/
structure Wt (B : Nat) (w : World) (a : Option Addr) (c : Nat) (R : List Ri) : Prop where
  own : w.ownsRow B 81 37 (.slice a R.length c) R.length (rics R)
  met : ∀ (k : Nat) (r : Ri), R[k]? = some r → Ow B w r.mv r.1.l
theorem Wt.later {B : Nat} {w w' : World} {a : Option Addr} {c : Nat} {R : List Ri} (h : Wt B w a c R) (hb : Below w.heap.size w w') : Wt B w' a c R := ⟨own_later h.own hb, fun k r hk => (h.met k r hk).later hb⟩
theorem Wt.it {B : Nat} {w : World} {a : Option Addr} {c : Nat} {R : List Ri} (h : Wt B w a c R) {l : List It} (e : R.map (·.1) = l) : IIt w a l := by
  rw [← e]
  exact it_of (w := w) h.own (fun k r hk => (Ow.asSl2 (h.met k r hk))) (Below.refl _ _)
theorem Wt.ot {B lo E : Nat} {w W w' : World} {a : Option Addr} {c : Nat} {R : List Ri} (h : Wt B w a c R) (hb : Below w.heap.size w W) (ho : Ot (fun g => (lo ≤ g ∧ g < E) ∨ g = w.heap.size) W w') (hE : E ≤ B) : Wt B w' a c R := by
  have key : ∀ g, B ≤ g ∧ g < w.heap.size → w'.heap[g]? = w.heap[g]? := fun g hg => (ho.block g (by have := hb.size; omega) (by omega)).trans (hb.block g hg.2)
  have hs : w.heap.size ≤ w'.heap.size := Nat.le_trans hb.size ho.size
  exact ⟨own_keep h.own (fun g hg => key g (h.own.lt g hg)), fun k r hk => (h.met k r hk).stay hs (fun g hg => key g ((h.met k r hk).own.lt g hg))⟩
theorem Bn3.ot {lo E : Nat} {w W w' : World} {g : Nat} {s n : Int} {v : Value} (h : Bn3 w g s n v) (hb : Below w.heap.size w W) (ho : Ot (fun g => (lo ≤ g ∧ g < E) ∨ g = w.heap.size) W w') (hE : E ≤ g) : Bn3 w' g s n v := by
  have hl := h.lt
  exact h.oth ((ho.block g (by have := hb.size; omega) (by omega)).trans (hb.block g hl))
theorem F4.bel {B E ga : Nat} {W w : World} {L : List Ls} (h : F4 B E ga W w L) (hB : B ≤ E) : Below B W w := by
  have := h.lt
  exact h.ot.below (by omega) (fun k hk => by rcases hk with q | q <;> omega)
/-- a box with a bucket -/
def Bb4 (w : World) (g : Nat) (n : Int) (v : Value) : Prop := w.heap[g]? = some (.cells #[.int .i64 n, v] 24 (0, 0))
theorem Bb4.new (w : World) (n : Int) (v : Value) : Bb4 (w.alloc (.cells #[.int .i64 n, v] 24)) w.heap.size n v := heap_alloc_new _ _
theorem Bb4.lt {w : World} {g : Nat} {n : Int} {v : Value} (h : Bb4 w g n v) : g < w.heap.size := (Array.getElem?_eq_some_iff.1 h).1
theorem Bb4.later {w w' : World} {g : Nat} {n : Int} {v : Value} (h : Bb4 w g n v) (hb : Below w.heap.size w w') : Bb4 w' g n v := (hb.block g h.lt).trans h
theorem Bb4.cells {w : World} {g : Nat} {n : Int} {v : Value} (h : Bb4 w g n v) : w.cell? ⟨g, 0, none⟩ = some (.int .i64 n) ∧ w.cell? ⟨g, 1, none⟩ = some v := by
  refine ⟨?_, ?_⟩ <;> (rw [cell_of_row _ _ _ _ _ _ h]; rfl)
theorem SA.start {n : Nat} {x1 x2 x3 x4 : Ls} (h1 : x1.R.length = n ∧ ∀ r ∈ x1.R, r.1.l.length ≤ 299) (h2 : x2.R.length = n ∧ ∀ r ∈ x2.R, r.1.l.length ≤ 299) (h3 : x3.R.length = n ∧ ∀ r ∈ x3.R, r.1.l.length ≤ 299) (h4 : x4.R.length = n ∧ ∀ r ∈ x4.R, r.1.l.length ≤ 299) : SA n 0 0 [x1, x2, x3, x4] := fun b x hx => by
  have h : x.R.length = n ∧ ∀ r ∈ x.R, r.1.l.length ≤ 299 := by
    match b, hx with
    | 0, hx => simp at hx; subst hx; exact h1
    | 1, hx => simp at hx; subst hx; exact h2
    | 2, hx => simp at hx; subst hx; exact h3
    | 3, hx => simp at hx; subst hx; exact h4
    | b + 4, hx => simp at hx
  exact ⟨h.1, fun j r hr => ⟨h.2 r (List.mem_of_getElem? hr), fun q => absurd q (by omega)⟩⟩
theorem len8 {R : List Ri} {l : List It} (e : R.map (·.1) = l) (h : ∀ x ∈ l, x.l.length ≤ 8) : ∀ r ∈ R, r.1.l.length ≤ 299 := fun r hr => by
  have := h r.1 (by rw [← e]; exact List.mem_map_of_mem hr)
  omega
noncomputable def zIt (s : Int) : It := ⟨[], s, false, 0, [], fun _ => 0⟩
noncomputable def bdI9 (v : Array (Nat × Value)) : Sem Value := Instr.build 46 v
theorem bdI9e (v : Array (Nat × Value)) : Instr.build 46 v = bdI9 v := rfl
theorem lay_seq9 (s : Int) (f : Nat → UInt8) (hf : f = fun _ => 0) : Tryz.prog.built 46 [(1, .int .i64 s)] = some (([str [], .int .i64 s, .bool false, .int .i64 0, .slice none 0 0] ++ Go.Proofs.YtdfjlmfnkhhnjaaGreatDoorH.hv f).toArray) := by
  subst hf
  rw [Go.Proofs.YtdfjlmfnkhhnjaaGreatDoorH.hv_eq]
  kernel_rfl
theorem run_bdI9 (s : Int) (w : World) : (bdI9 #[(1, .int .i64 s)]).run Tryz.prog w = .ok (.agg (ic (zIt s) none 0).toArray) w := by
  unfold bdI9 ic zIt
  exact run_build w 46 _ _ (lay_seq9 s _ rfl)
end Go.Proofs.YtdfjlmfnkhhnjaaGreatDoor

/- A drawn region's operations taken one by one. -/
namespace Go.Proofs.YtdfjlmfnkhhnjaaGreatDoor
set_option maxRecDepth 100000
set_option linter.unusedVariables false
set_option linter.unusedSimpArgs false
open Go.RowKit
theorem val_step2 {P : Program} {o : Oper} {a : Act} {w : World} {next : Act → World → Prop} {Q : Exit → Act → World → Prop} {v : Value} {w2 : World} (d : Nat) (hd : o.dst = some d) (hx : (execOp a.eval o).run P w = .ok (.value v) w2) (hn : next (a.put (some d) v) w2) : Oper.wp P o a w next Q := by
  unfold Oper.wp; rw [hx]; show next (a.put o.dst v) w2; rw [hd]; exact hn
theorem bal2 {w w' : World} (h : Below w.heap.size w w') (o : Obj) : Below w.heap.size w (w'.alloc o) := h.alloc h.size o
theorem take2 {P : Program} {ops : Array Oper} {Q : Exit → Act → World → Prop} {md : Region.Mode} {S : World → Prop} {oi : Oper} {fuel : Nat} {listed : Array Bool} {a : Act} {w : World} (i d : Nat) (v : Value) (hi : ops[i]? = some oi) (hd : oi.dst = some d)
    (hs : Region.noSelect ops = true) (hf : Region.free md ops listed i = true) (hr : (Region.ready md ops listed).contains i = true)
    (hQ : ∀ c a w, Q (.panic c) (a.put (some d) v) w → Q (.panic c) a w) (hw : Region.wanted oi (yielded ops a.tmps) = true) (hy : ∀ w, S w → (execOp a.eval oi).run P w = .ok (.value v) w) (hS : S w)
    (h : wpAnyH P md ops Q S fuel (listed.setIfInBounds i true) (a.put (some d) v) w) : wpAnyH P md ops Q S (fuel + 1) listed a w :=
  wpAnyH_take hi hs hf hr (by rw [hd]; exact hQ) (Or.inl ⟨hw, hy⟩) hS (by rw [hd]; exact h)
end Go.Proofs.YtdfjlmfnkhhnjaaGreatDoor
