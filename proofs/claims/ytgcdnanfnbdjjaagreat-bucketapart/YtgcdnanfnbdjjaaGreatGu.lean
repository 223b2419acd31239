import Derived.Test.YtgcdnanfnbdjjaaGreatGp
/- Many things of the call's own side by side, no two of which share a block (disk's Env, without a disk). -/
namespace Go.Proofs.YtgcdnanfnbdjjaaGreat
set_option linter.unusedVariables false
set_option linter.unusedSimpArgs false
open Go.RowKit
section
variable {S S' : Nat → Prop} {a b c w w' : World}
structure Fr (S : Nat → Prop) (w w' : World) : Prop where
  os : w'.os = w.os
  tape : w'.tape = w.tape
  output : w'.output = w.output
  size : w.heap.size ≤ w'.heap.size
  block : ∀ k, k < w.heap.size → ¬ S k → w'.heap[k]? = w.heap[k]?
section
variable {S S' : Nat → Prop} {a b c w w' : World}
theorem Fr.refl (S : Nat → Prop) (w : World) : Fr S w w := ⟨rfl, rfl, rfl, Nat.le_refl _, fun _ _ _ => rfl⟩
theorem Fr.trans (h : Fr S a b) (k : Fr S' b c) (hs : ∀ i, i < a.heap.size → S' i → S i) : Fr S a c :=
  ⟨k.os.trans h.os, k.tape.trans h.tape, k.output.trans h.output, Nat.le_trans h.size k.size, fun i hi hn => (k.block i (Nat.lt_of_lt_of_le hi h.size) (fun e => hn (hs i hi e))).trans (h.block i hi hn)⟩
theorem Fr.of_below (h : Below w.heap.size w w') : Fr S w w' := ⟨h.os, h.tape, h.output, h.size, fun k hk _ => h.block k hk⟩
theorem Fr.of_grown {row : Option Nat} (h : w.grownBy w' row) (hr : ∀ k, row = some k → S k) : Fr S w w' := ⟨h.os, h.tape, h.output, h.size, fun k hk hn => h.block k hk (fun e => hn (hr k e.symm))⟩
theorem Fr.mono (h : Fr S w w') (hs : ∀ i, i < w.heap.size → S i → S' i) : Fr S' w w' := ⟨h.os, h.tape, h.output, h.size, fun k hk hn => h.block k hk (fun e => hn (hs k hk e))⟩
theorem Fr.below {B : Nat} (h : Fr S w w') (hB : B ≤ w.heap.size) (hs : ∀ k, S k → B ≤ k) : Below B w w' := ⟨h.os, h.tape, h.output, h.size, fun k hk => h.block k (by omega) (fun e => by have := hs k e; omega)⟩
theorem Fr.then_below (h : Fr S a b) (k : Below b.heap.size b c) : Fr S a c := h.trans (Fr.of_below (S := fun _ => False) k) (fun _ _ e => e.elim)
theorem Fr.drew (h : Fr S a b) : Fr S a b.drew := ⟨h.os, h.tape, h.output, h.size, h.block⟩
theorem Fr.drewN (h : Fr S a b) (n : Nat) : Fr S a (b.drewN n) := ⟨h.os, h.tape, h.output, h.size, h.block⟩
theorem Fr.alloc (h : Fr S a b) (o : Obj) : Fr S a (b.alloc o) := h.then_below ((Below.refl _ _).alloc (Nat.le_refl _) o)
theorem fr_set (w : World) (g j : Nat) (v : Value) (hg : S g) : Fr S w (w.setCell ⟨g, j, none⟩ v) :=
  ⟨rfl, rfl, rfl, by simp [World.setCell], fun k _ hn => Below.heap_setCell _ _ _ _ (fun e => hn (by rw [e]; exact hg))⟩
theorem Fr.setCell (h : Fr S a b) (g j : Nat) (v : Value) (hg : S g ∨ a.heap.size ≤ g) : Fr S a (b.setCell ⟨g, j, none⟩ v) :=
  h.trans (fr_set (S := fun k => k = g) b g j v rfl) (fun i hi e => by subst e; rcases hg with h1 | h1; exact h1; omega)
theorem Fr.cell (h : Fr S w w') {p : Addr} {v : Value} (hc : w.cell? p = some v) (hn : ¬ S p.block) : w'.cell? p = some v := (World.cell?_of_block (w := w) (h.block p.block (World.block_lt_of_cell? w p hc) hn)).trans hc
theorem heap_lt {k : Nat} {o : Obj} (h : w.heap[k]? = some o) : k < w.heap.size := by
  rcases Nat.lt_or_ge k w.heap.size with q | q
  · exact q
  · rw [Array.getElem?_eq_none q] at h; cases h
theorem Fr.heap (h : Fr S w w') {k : Nat} {o : Obj} (hc : w.heap[k]? = some o) (hn : ¬ S k) : w'.heap[k]? = some o := (h.block k (heap_lt hc) hn).trans hc
theorem Fr.grown (h : Fr S w w') (row : Option Nat) (hr : ∀ k, S k → k < w.heap.size → row = some k) : w.grownBy w' row := ⟨h.os, h.tape, h.output, h.size, fun k hk hne => h.block k hk (fun e => hne (hr k e hk).symm)⟩
theorem Fr.own (h : Fr S w w') {base : Nat} {e : TypeId} {size : Nat} {v : Value} {n : Nat} {xs : List Value} (ho : w.ownsRow base e size v n xs) (hn : ∀ k, v.ownBlock = some k → ¬ S k) : w'.ownsRow base e size v n xs := by
  refine ⟨ho.1, ?_⟩
  rcases ho.2 with h1 | ⟨g, cap, cur, h1, h2, h3, h4⟩
  · exact .inl h1
  · exact .inr ⟨g, cap, cur, h1, h2, h.heap h3 (hn g (by rw [h1]; rfl)), h4⟩
end
theorem eth_set (wr : World) (g j : Nat) (cs : Array Value) (t : TypeId) (v : Value) (h : wr.heap[g]? = some (.cells cs t (0, 0))) : (wr.setCell ⟨g, j, none⟩ v).heap[g]? = some (.cells (cs.setIfInBounds j v) t (0, 0)) := heap_setCell_same wr g j cs t v h
end
structure Th where
  foot : Nat → Prop
  at' : World → Prop
  lt : ∀ w, at' w → ∀ k, foot k → k < w.heap.size
  kept : ∀ (S : Nat → Prop) w w', at' w → Fr S w w' → (∀ k, foot k → ¬ S k) → at' w'
structure Env (w0 w : World) (L : List Th) : Prop where
  at' : ∀ (i : Nat) t, L[i]? = some t → t.at' w
  apart : ∀ (i j : Nat) s t k, i ≠ j → L[i]? = some s → L[j]? = some t → s.foot k → ¬ t.foot k
  own : ∀ (i : Nat) t k, L[i]? = some t → t.foot k → w0.heap.size ≤ k
  bel : Below w0.heap.size w0 w
section
variable {w0 w w' : World} {L : List Th}
theorem Env.below (h : Env w0 w L) (b : Below w.heap.size w w') : Env w0 w' L :=
  ⟨fun i t hi => t.kept (fun _ => False) w w' (h.at' i t hi) (Fr.of_below b) (fun _ _ e => e), h.apart, h.own, h.bel.trans (b.mono h.bel.size)⟩
theorem Env.step (h : Env w0 w L) (i : Nat) (s t : Th) (hi : L[i]? = some s) (fr : Fr s.foot w w') (ha : t.at' w') (nw : ∀ k, t.foot k → s.foot k ∨ w.heap.size ≤ k) : Env w0 w' (L.set i t) := by
  have hil : i < L.length := (List.getElem?_eq_some_iff.1 hi).1
  have get : ∀ (j : Nat) u, (L.set i t)[j]? = some u → (j = i ∧ u = t) ∨ (j ≠ i ∧ L[j]? = some u) := fun j u hj => by
    by_cases e : i = j
    · subst e
      rw [List.getElem?_set_self hil] at hj
      exact .inl ⟨rfl, (Option.some.inj hj).symm⟩
    · rw [List.getElem?_set_ne e] at hj
      exact .inr ⟨fun h => e h.symm, hj⟩
  refine ⟨fun j u hj => ?_, fun j k u v b hne hu hv hf => ?_, fun j u k hj hk => ?_, h.bel.trans (fr.below h.bel.size (fun k hk => h.own i s k hi hk))⟩
  · rcases get j u hj with ⟨_, rfl⟩ | ⟨hne, h1⟩
    · exact ha
    · exact u.kept s.foot w w' (h.at' j u h1) fr (fun k hk => h.apart j i u s k hne h1 hi hk)
  · rcases get j u hu with ⟨e1, rfl⟩ | ⟨h1, h2⟩
    · rcases get k v hv with ⟨e2, rfl⟩ | ⟨h3, h4⟩
      · exact absurd (e1.trans e2.symm) hne
      · rcases nw b hf with q | q
        · exact h.apart i k s v b (fun e => h3 e.symm) hi h4 q
        · exact fun e => by have := v.lt w (h.at' k v h4) b e; omega
    · rcases get k v hv with ⟨e2, rfl⟩ | ⟨h3, h4⟩
      · intro e
        rcases nw b e with q | q
        · exact h.apart j i u s b h1 h2 hi hf q
        · have := u.lt w (h.at' j u h2) b hf; omega
      · exact h.apart j k u v b hne h2 h4 hf
  · rcases get j u hj with ⟨_, rfl⟩ | ⟨_, h2⟩
    · rcases nw k hk with q | q
      · exact h.own i s k hi q
      · exact Nat.le_trans h.bel.size q
    · exact h.own j u k h2 hk
theorem Env.push (h : Env w0 w L) (t : Th) (b : Below w.heap.size w w') (ha : t.at' w') (hf : ∀ k, t.foot k → w.heap.size ≤ k) : Env w0 w' (L ++ [t]) := by
  have hb := h.below b
  have get : ∀ (j : Nat) u, (L ++ [t])[j]? = some u → (j = L.length ∧ u = t) ∨ (j < L.length ∧ L[j]? = some u) := fun j u hj => by
    by_cases e : j < L.length
    · rw [List.getElem?_append_left e] at hj
      exact .inr ⟨e, hj⟩
    · rw [List.getElem?_append_right (by omega)] at hj
      have h1 : j - L.length = 0 := by
        have := (List.getElem?_eq_some_iff.1 hj).1
        simpa using this
      rw [h1] at hj
      exact .inl ⟨by omega, (Option.some.inj hj).symm⟩
  refine ⟨fun j u hj => ?_, fun j k u v b hne hu hv hfu => ?_, fun j u k hj hk => ?_, hb.bel⟩
  · rcases get j u hj with ⟨_, rfl⟩ | ⟨_, h1⟩
    · exact ha
    · exact hb.at' j u h1
  · rcases get j u hu with ⟨e1, rfl⟩ | ⟨h1, h2⟩
    · rcases get k v hv with ⟨e2, rfl⟩ | ⟨h3, h4⟩
      · exact absurd (e1.trans e2.symm) hne
      · intro e
        have := hf b hfu
        have := v.lt w (h.at' k v h4) b e
        omega
    · rcases get k v hv with ⟨e2, rfl⟩ | ⟨h3, h4⟩
      · intro e
        have := hf b e
        have := u.lt w (h.at' j u h2) b hfu
        omega
      · exact h.apart j k u v b hne h2 h4 hfu
  · rcases get j u hj with ⟨_, rfl⟩ | ⟨_, h2⟩
    · exact Nat.le_trans h.bel.size (hf k hk)
    · exact h.own j u k h2 hk
theorem Env.nil (w : World) : Env w w [] := ⟨fun i t h => by simp at h, fun i j s t k _ h => by simp at h, fun i t k h => by simp at h, Below.refl _ _⟩
end
/-- the things, each told by what it is -/
def EnvP (w0 w : World) (Ls : List (Th → Prop)) : Prop := ∃ L : List Th, L.length = Ls.length ∧ (∀ (i : Nat) s t, Ls[i]? = some s → L[i]? = some t → s t) ∧ Env w0 w L
def obTh (b : Nat) (cs : Array Value) (ty : TypeId) : Th := ⟨fun k => k = b, fun w => w.heap[b]? = some (.cells cs ty (0, 0)), fun w h k hk => by subst hk; exact heap_lt h, fun S w w' h fr hs => fr.heap h (hs b rfl)⟩
def ob (b : Nat) (cs : Array Value) (ty : TypeId) : Th → Prop := fun t => t = obTh b cs ty
section
variable {w0 w w' : World} {Ls : List (Th → Prop)}
theorem EnvP.nil (w : World) : EnvP w w [] := ⟨[], rfl, fun i s t h => by simp at h, Env.nil w⟩
theorem EnvP.bel (h : EnvP w0 w Ls) : Below w0.heap.size w0 w := by obtain ⟨L, _, _, e⟩ := h; exact e.bel
theorem EnvP.below (h : EnvP w0 w Ls) (b : Below w.heap.size w w') : EnvP w0 w' Ls := by obtain ⟨L, h1, h2, e⟩ := h; exact ⟨L, h1, h2, e.below b⟩
theorem EnvP.get (h : EnvP w0 w Ls) (i : Nat) (s : Th → Prop) (hi : Ls[i]? = some s) : ∃ t, s t ∧ t.at' w ∧ (∀ k, t.foot k → w0.heap.size ≤ k) ∧
    ∀ w' (t' : Th) (s' : Th → Prop), s' t' → Fr t.foot w w' → t'.at' w' → (∀ k, t'.foot k → t.foot k ∨ w.heap.size ≤ k) → EnvP w0 w' (Ls.set i s') := by
  obtain ⟨L, h1, h2, e⟩ := h
  have hil : i < Ls.length := (List.getElem?_eq_some_iff.1 hi).1
  have ht : L[i]? = some L[i] := List.getElem?_eq_getElem (by omega)
  refine ⟨L[i], h2 i s _ hi ht, e.at' i _ ht, fun k hk => e.own i _ k ht hk, fun w' t' s' hs' fr ha nw => ⟨L.set i t', by simp [h1], fun j s2 t2 hj hk => ?_, e.step i _ t' ht fr ha nw⟩⟩
  by_cases hij : i = j
  · subst hij
    rw [List.getElem?_set_self (by omega)] at hj hk
    cases hj; cases hk; exact hs'
  · rw [List.getElem?_set_ne hij] at hj hk
    exact h2 j s2 t2 hj hk
theorem EnvP.push (h : EnvP w0 w Ls) (t : Th) (s : Th → Prop) (hs : s t) (b : Below w.heap.size w w') (ha : t.at' w') (hf : ∀ k, t.foot k → w.heap.size ≤ k) : EnvP w0 w' (Ls ++ [s]) := by
  obtain ⟨L, h1, h2, e⟩ := h
  refine ⟨L ++ [t], by simp [h1], fun j s2 t2 hj hk => ?_, e.push t b ha hf⟩
  by_cases hl : j < Ls.length
  · rw [List.getElem?_append_left hl] at hj
    rw [List.getElem?_append_left (by omega)] at hk
    exact h2 j s2 t2 hj hk
  · rw [List.getElem?_append_right (by omega)] at hj hk
    have h3 : j - Ls.length = 0 := by
      have := (List.getElem?_eq_some_iff.1 hj).1
      simpa using this
    rw [h1, h3] at hk
    rw [h3] at hj
    cases hj; cases hk; exact hs
theorem EnvP.heap {b : Nat} {cs : Array Value} {ty : TypeId} (h : EnvP w0 w Ls) (i : Nat) (hi : Ls[i]? = some (ob b cs ty)) : w.heap[b]? = some (.cells cs ty (0, 0)) := by
  obtain ⟨t, rfl, ha, _⟩ := h.get i _ hi
  exact ha
theorem EnvP.cell {b : Nat} {cs : Array Value} {ty : TypeId} (h : EnvP w0 w Ls) (i : Nat) (hi : Ls[i]? = some (ob b cs ty)) (j : Nat) : w.cell? ⟨b, j, none⟩ = cs[j]? := cell_of_row w b j cs ty (0, 0) (h.heap i hi)
theorem EnvP.frozen {b : Nat} {cs : Array Value} {ty : TypeId} (h : EnvP w0 w Ls) (i : Nat) (hi : Ls[i]? = some (ob b cs ty)) (j : Nat) : w.frozen? ⟨b, j, none⟩ = false := frozen_of_row w b j cs ty (h.heap i hi)
theorem EnvP.setCell {b : Nat} {cs : Array Value} {ty : TypeId} (h : EnvP w0 w Ls) (i : Nat) (hi : Ls[i]? = some (ob b cs ty)) (j : Nat) (v : Value) : EnvP w0 (w.setCell ⟨b, j, none⟩ v) (Ls.set i (ob b (cs.setIfInBounds j v) ty)) := by
  obtain ⟨t, rfl, ha, _, hn⟩ := h.get i _ hi
  exact hn _ (obTh b (cs.setIfInBounds j v) ty) _ rfl (fr_set w b j v rfl) (eth_set w b j cs ty v ha) (fun k hk => .inl hk)
theorem EnvP.ge {b : Nat} {cs : Array Value} {ty : TypeId} (h : EnvP w0 w Ls) (i : Nat) (hi : Ls[i]? = some (ob b cs ty)) : w0.heap.size ≤ b := by
  obtain ⟨t, rfl, ha, ho, _⟩ := h.get i _ hi
  exact ho b rfl
theorem EnvP.drew (h : EnvP w0 w Ls) : EnvP w0 w.drew Ls := h.below (Below.refl _ _).drew
theorem EnvP.alloc (h : EnvP w0 w Ls) (cs : Array Value) (ty : TypeId) : EnvP w0 (w.alloc (.cells cs ty)) (Ls ++ [ob w.heap.size cs ty]) :=
  h.push (obTh w.heap.size cs ty) _ rfl ((Below.refl _ _).alloc (Nat.le_refl _) _) (heap_alloc_new w _) (fun k hk => Nat.le_of_eq hk.symm)
theorem EnvP.drop (h : EnvP w0 w Ls) (o : Obj) : EnvP w0 (w.alloc o) Ls := h.below ((Below.refl _ _).alloc (Nat.le_refl _) _)
theorem EnvP.lt (h : EnvP w0 w Ls) : w0.heap.size ≤ w.heap.size := h.bel.size
end
section
variable {w0 w w' : World} {Ls : List (Th → Prop)}
/-- the things in another order, or fewer of them -/
theorem EnvP.remap {Ls' : List (Th → Prop)} (h : EnvP w0 w Ls) (g : Nat → Nat) (hg : ∀ (i : Nat) s, Ls'[i]? = some s → Ls[g i]? = some s) (inj : ∀ i j, i < Ls'.length → j < Ls'.length → g i = g j → i = j) : EnvP w0 w Ls' := by
  obtain ⟨L, h1, h2, e⟩ := h
  have hlt : ∀ i, i < Ls'.length → g i < L.length := fun i hi => by
    have := (List.getElem?_eq_some_iff.1 (hg i _ (List.getElem?_eq_getElem hi))).1
    omega
  obtain ⟨L', hL', hget⟩ : ∃ L' : List Th, L'.length = Ls'.length ∧ ∀ (i : Nat) t, L'[i]? = some t → i < Ls'.length ∧ L[g i]? = some t := by
    refine ⟨(List.range Ls'.length).attach.map (fun x => L[g x.1]'(hlt x.1 (List.mem_range.1 x.2))), by simp, fun i t hi => ?_⟩
    have hil : i < Ls'.length := by
      have := (List.getElem?_eq_some_iff.1 hi).1
      simpa using this
    refine ⟨hil, ?_⟩
    rw [List.getElem?_map] at hi
    have ha : (List.range Ls'.length).attach[i]? = some ⟨i, List.mem_range.2 hil⟩ := by
      rw [List.getElem?_eq_getElem (by simpa using hil)]
      congr 1
      apply Subtype.ext
      simp
    rw [ha] at hi
    have : L[g i]'(hlt i hil) = t := by simpa using hi
    rw [List.getElem?_eq_getElem (hlt i hil), this]
  refine ⟨L', hL', fun i s t hi ht => h2 (g i) s t (hg i s hi) (hget i t ht).2, ⟨fun i t ht => e.at' (g i) t (hget i t ht).2, fun i j s t k hne hs ht => ?_, fun i t k ht => e.own (g i) t k (hget i t ht).2, e.bel⟩⟩
  exact e.apart (g i) (g j) s t k (fun hh => hne (inj i j (hget i s hs).1 (hget j t ht).1 hh)) (hget i s hs).2 (hget j t ht).2
theorem EnvP.front {x : Th → Prop} (h : EnvP w0 w (Ls ++ [x])) : EnvP w0 w (x :: Ls) := by
  refine h.remap (fun i => match i with | 0 => Ls.length | i + 1 => i) ?_ ?_
  · intro i s hi
    cases i with
    | zero => simp at hi ⊢; exact hi
    | succ i =>
      have hil : i < Ls.length := by
        have := (List.getElem?_eq_some_iff.1 hi).1
        simpa using this
      simp only [List.getElem?_cons_succ] at hi
      show (Ls ++ [x])[i]? = some s
      rw [List.getElem?_append_left hil]
      exact hi
  · intro i j hi hj e
    cases i with
    | zero =>
      cases j with
      | zero => rfl
      | succ j => simp at hj e; omega
    | succ i =>
      cases j with
      | zero => simp at hi e; omega
      | succ j => simp at e; omega
theorem EnvP.tail {x : Th → Prop} (h : EnvP w0 w (x :: Ls)) : EnvP w0 w Ls :=
  h.remap (fun i => i + 1) (fun i s hi => by simpa using hi) (fun i j _ _ e => by omega)
end
end Go.Proofs.YtgcdnanfnbdjjaaGreat

/- Rows of versions of one's own that lie apart, and rows of any type, among the things. -/
namespace Go.Proofs.YtgcdnanfnbdjjaaGreat
set_option linter.unusedVariables false
set_option linter.unusedSimpArgs false
open Go.RowKit
theorem own_cellT {w : World} {base g cap n s : Nat} {t : TypeId} {xs : List Value} (h : w.ownsRow base t s (.slice (some ⟨g, 0, none⟩) n cap) n xs) (j : Nat) (u : Value) : (w.setCell ⟨g, j, none⟩ u).ownsRow base t s (.slice (some ⟨g, 0, none⟩) n cap) n (xs.set j u) := by
  refine ⟨by rw [List.length_set]; exact h.1, ?_⟩
  rcases h.2 with ⟨e, _⟩ | ⟨g', cap', cur, e, h2, h3, h4, h5, h6, h7⟩
  · cases e
  · injection e with e1 e2 e3
    injection e1 with e1
    injection e1 with e1
    subst e1 e3
    refine Or.inr ⟨g, cap, _, rfl, h2, heap_setCell_same _ _ _ _ _ _ h3, h4, h5, by rw [Array.size_setIfInBounds]; exact h6, ?_⟩
    rw [Array.toList_setIfInBounds, ← h7, List.take_set]
theorem pcells_set (l : List En) (i : Nat) (p : En) (hi : i < l.length) : pcells (l.set i p) = ((pcells l).set (i * 2) (str p.key)).set (i * 2 + 1) (str p.val) := by
  induction l generalizing i with
  | nil => simp at hi
  | cons q l ih =>
    cases i with
    | zero => simp [pcells, pcs]
    | succ i =>
      have := ih i (by simpa using hi)
      have e : ∀ x : List En, pcells (q :: x) = pcs q ++ pcells x := fun x => by simp [pcells]
      rw [List.set_cons_succ, e, e, this]
      simp [pcs, show (i + 1) * 2 = i * 2 + 1 + 1 by omega]
theorem rcells_cons (q : Rv) (l : List Rv) : rcells (q :: l) = rcs q ++ rcells l := by simp [rcells]
theorem rcells_set3 : ∀ (R : List Rv) (k : Nat) (r : Rv) (d : List UInt8), R[k]? = some r → rcells (R.set k { r with v := { r.v with data := d } }) = (rcells R).set (k * 5 + 3) (str d)
  | [], k, r, d, h => by simp at h
  | q :: l, 0, r, d, h => by
    simp at h
    subst h
    rw [List.set_cons_zero, rcells_cons, rcells_cons]
    simp [rcs]
  | q :: l, k + 1, r, d, h => by
    have := rcells_set3 l k r d (by simpa using h)
    rw [List.set_cons_succ, rcells_cons, rcells_cons, this]
    simp [rcs, show (k + 1) * 5 + 3 = k * 5 + 3 + 1 + 1 + 1 + 1 + 1 by omega]
theorem rcells_set4 : ∀ (R : List Rv) (k : Nat) (r : Rv) (l' : List En) (a : Option Addr) (c : Nat) (z : List En), R[k]? = some r → rcells (R.set k ⟨{ r.v with l := l' }, z, a, c⟩) = (rcells R).set (k * 5 + 4) (.slice a l'.length c)
  | [], k, r, l', a, c, z, h => by simp at h
  | q :: l, 0, r, l', a, c, z, h => by
    simp at h
    subst h
    rw [List.set_cons_zero, rcells_cons, rcells_cons]
    simp [rcs]
  | q :: l, k + 1, r, l', a, c, z, h => by
    have := rcells_set4 l k r l' a c z (by simpa using h)
    rw [List.set_cons_succ, rcells_cons, rcells_cons, this]
    simp [rcs, show (k + 1) * 5 + 4 = k * 5 + 4 + 1 + 1 + 1 + 1 + 1 by omega]
theorem rcells_setl : ∀ (R : List Rv) (k : Nat) (r : Rv) (l' : List En), R[k]? = some r → l'.length = r.v.l.length → rcells (R.set k { r with v := { r.v with l := l' } }) = rcells R
  | [], k, r, l', h, _ => by simp at h
  | q :: l, 0, r, l', h, e => by
    simp at h
    subst h
    rw [List.set_cons_zero, rcells_cons, rcells_cons]
    simp [rcs, e]
  | q :: l, k + 1, r, l', h, e => by
    rw [List.set_cons_succ, rcells_cons, rcells_cons, rcells_setl l k r l' (by simpa using h) e]
/-- the blocks of a row of versions -/
def Tc (v : Value) (R : List Rv) (g : Nat) : Prop := v.ownBlock = some g ∨ ∃ (k : Nat) (r : Rv), R[k]? = some r ∧ r.mv.ownBlock = some g
theorem Fo.tc {B : Nat} {w : World} {v : Value} {R : List Rv} (h : Fo B w v R) {g : Nat} (ht : Tc v R g) : B ≤ g ∧ g < w.heap.size := by
  rcases ht with q | ⟨k, r, h1, h2⟩
  · exact h.own.lt g q
  · exact (h.met k r h1).own.lt g h2
theorem Fo.frame {B : Nat} {w w' : World} {v : Value} {R : List Rv} (h : Fo B w v R) (hs : w.heap.size ≤ w'.heap.size) (hx : ∀ g, Tc v R g → w'.heap[g]? = w.heap[g]?) : Fo B w' v R :=
  ⟨own_same h.own (fun g hg => hx g (.inl hg)), Nat.le_trans h.le hs, fun k r hk => (h.met k r hk).same hs (fun g hg => hx g (.inr ⟨k, r, hk, hg⟩)), h.par⟩
theorem Fo.vm {B : Nat} {w : World} {v : Value} {R : List Rv} (h : Fo B w v R) {k : Nat} {r : Rv} (hk : R[k]? = some r) {g : Nat} (hg : v.ownBlock = some g) : r.mv.ownBlock ≠ some g := own_apart h.own (h.met k r hk).own (by decide) hg
theorem Fo.mv {B : Nat} {w : World} {v : Value} {R : List Rv} (h : Fo B w v R) {k : Nat} {r : Rv} (hk : R[k]? = some r) {g : Nat} (hg : r.mv.ownBlock = some g) : v.ownBlock ≠ some g := own_apart (h.met k r hk).own h.own (by decide) hg
theorem set_get {R : List Rv} {k j : Nat} {r' q : Rv} (h : (R.set k r')[j]? = some q) : (j = k ∧ q = r') ∨ (¬ j = k ∧ R[j]? = some q) := by
  by_cases e : j = k
  · subst e
    have hl := (List.getElem?_eq_some_iff.1 h).1
    rw [List.getElem?_set_self (by simpa using hl)] at h
    injection h with h
    exact .inl ⟨rfl, h.symm⟩
  · rw [List.getElem?_set_ne (fun q => e q.symm)] at h
    exact .inr ⟨e, h⟩
/-- a version's data set -/
theorem Fo.setData {B : Nat} {w : World} {g cap n : Nat} {R : List Rv} (h : Fo B w (.slice (some ⟨g, 0, none⟩) n cap) R) (hn : n = R.length) {k : Nat} {r : Rv} (hk : R[k]? = some r) (d : List UInt8) :
    Fo B (w.setCell ⟨g, k * 5 + 3, none⟩ (str d)) (.slice (some ⟨g, 0, none⟩) n cap) (R.set k { r with v := { r.v with data := d } }) := by
  subst hn
  refine ⟨?_, by simpa using h.le, fun j q hq => ?_, fun i j q q' hij hq hq' b hb => ?_⟩
  · rw [List.length_set, rcells_set3 R k r d hk]
    exact own_cellT h.own _ _
  · rcases set_get hq with ⟨rfl, rfl⟩ | ⟨_, hq⟩
    · exact (h.met j r hk).other (h.vm hk rfl) _
    · exact (h.met j q hq).other (h.vm hq rfl) _
  · rcases set_get hq with ⟨rfl, rfl⟩ | ⟨_, hq1⟩
    · rcases set_get hq' with ⟨rfl, rfl⟩ | ⟨_, hq'⟩
      · exact absurd rfl hij
      · exact h.par i j r q' hij hk hq' b hb
    · rcases set_get hq' with ⟨rfl, rfl⟩ | ⟨_, hq'⟩
      · exact h.par i j q r hij hq1 hk b hb
      · exact h.par i j q q' hij hq1 hq' b hb
/-- a pair set -/
theorem Fo.setPair {B : Nat} {w : World} {v : Value} {R : List Rv} (h : Fo B w v R) {k : Nat} {r : Rv} (hk : R[k]? = some r) (hz : r.z = []) {mb n : Nat} (ha : r.a = some ⟨mb, 0, none⟩) (hn : n < r.v.l.length) (p : En) :
    Fo B ((w.setCell ⟨mb, n * 2, none⟩ (str p.key)).setCell ⟨mb, n * 2 + 1, none⟩ (str p.val)) v (R.set k { r with v := { r.v with l := r.v.l.set n p } }) := by
  have hb : r.mv.ownBlock = some mb := by unfold Rv.mv; rw [ha]; rfl
  have hlen : (r.v.l.set n p).length = r.v.l.length := List.length_set
  have hmv : ({ r with v := { r.v with l := r.v.l.set n p } } : Rv).mv = r.mv := by unfold Rv.mv; simp
  refine ⟨?_, by simpa using h.le, fun j q hq => ?_, fun i j q q' hij hq hq' b hb2 => ?_⟩
  · rw [List.length_set, rcells_setl R k r _ hk hlen]
    exact ownsRow_setCell_other (ownsRow_setCell_other h.own (a := ⟨mb, _, none⟩) (h.mv hk hb) _) (a := ⟨mb, _, none⟩) (h.mv hk hb) _
  · rcases set_get hq with ⟨rfl, rfl⟩ | ⟨hj, hq⟩
    · have ho := h.met j r hk
      refine ⟨?_, by simpa using ho.le⟩
      have ho := ho.own
      rw [hmv]
      have hm : r.mv = .slice (some ⟨mb, 0, none⟩) r.v.l.length r.c := by unfold Rv.mv; rw [ha, hz]; rfl
      rw [hm, hz, List.append_nil] at ho
      show World.ownsRow _ B 41 2 r.mv ((r.v.l.set n p) ++ r.z).length (pcells ((r.v.l.set n p) ++ r.z))
      rw [hm, hz, List.append_nil, hlen, pcells_set _ _ _ hn]
      exact own_cellT (own_cellT ho _ _) _ _
    · have hne := h.par k j r q (fun e => hj e.symm) hk hq mb hb
      exact ((h.met j q hq).other hne _).other hne _
  · rcases set_get hq with ⟨rfl, rfl⟩ | ⟨_, hq1⟩
    · rw [hmv] at hb2
      rcases set_get hq' with ⟨rfl, rfl⟩ | ⟨_, hq'⟩
      · exact absurd rfl hij
      · exact h.par i j r q' hij hk hq' b hb2
    · rcases set_get hq' with ⟨rfl, rfl⟩ | ⟨_, hq'⟩
      · rw [hmv]
        exact h.par i j q r hij hq1 hk b hb2
      · exact h.par i j q q' hij hq1 hq' b hb2
theorem rcells_set1 : ∀ (R : List Rv) (k : Nat) (r : Rv) (q : Int), R[k]? = some r → rcells (R.set k { r with v := { r.v with seq := q } }) = (rcells R).set (k * 5 + 1) (.int .i64 q)
  | [], k, r, d, h => by simp at h
  | q :: l, 0, r, d, h => by
    simp at h
    subst h
    rw [List.set_cons_zero, rcells_cons, rcells_cons]
    simp [rcs]
  | q :: l, k + 1, r, d, h => by
    have := rcells_set1 l k r d (by simpa using h)
    rw [List.set_cons_succ, rcells_cons, rcells_cons, this]
    simp [rcs, show (k + 1) * 5 + 1 = k * 5 + 1 + 1 + 1 + 1 + 1 + 1 by omega]
/-- a version's number set -/
theorem Fo.setSeq {B : Nat} {w : World} {g cap n : Nat} {R : List Rv} (h : Fo B w (.slice (some ⟨g, 0, none⟩) n cap) R) (hn : n = R.length) {k : Nat} {r : Rv} (hk : R[k]? = some r) (d : Int) :
    Fo B (w.setCell ⟨g, k * 5 + 1, none⟩ (.int .i64 d)) (.slice (some ⟨g, 0, none⟩) n cap) (R.set k { r with v := { r.v with seq := d } }) := by
  subst hn
  refine ⟨?_, by simpa using h.le, fun j q hq => ?_, fun i j q q' hij hq hq' b hb => ?_⟩
  · rw [List.length_set, rcells_set1 R k r d hk]
    exact own_cellT h.own _ _
  · rcases set_get hq with ⟨rfl, rfl⟩ | ⟨_, hq⟩
    · exact (h.met j r hk).other (h.vm hk rfl) _
    · exact (h.met j q hq).other (h.vm hq rfl) _
  · rcases set_get hq with ⟨rfl, rfl⟩ | ⟨_, hq1⟩
    · rcases set_get hq' with ⟨rfl, rfl⟩ | ⟨_, hq'⟩
      · exact absurd rfl hij
      · exact h.par i j r q' hij hk hq' b hb
    · rcases set_get hq' with ⟨rfl, rfl⟩ | ⟨_, hq'⟩
      · exact h.par i j q r hij hq1 hk b hb
      · exact h.par i j q q' hij hq1 hq' b hb
theorem tc_set {v : Value} {R : List Rv} {k : Nat} {r r' : Rv} (hk : R[k]? = some r) {g s : Nat} (hr : ∀ b, r'.mv.ownBlock = some b → r.mv.ownBlock = some b ∨ s ≤ b) (h : Tc v (R.set k r') g) : Tc v R g ∨ s ≤ g := by
  rcases h with q | ⟨j, x, h1, h2⟩
  · exact .inl (.inl q)
  · rcases set_get h1 with ⟨rfl, rfl⟩ | ⟨_, h1⟩
    · rcases hr g h2 with q | q
      · exact .inl (.inr ⟨j, r, hk, q⟩)
      · exact .inr q
    · exact .inl (.inr ⟨j, x, h1, h2⟩)
/-- a list of versions of one's own, among the things -/
def foTh (v : Value) (R : List Rv) : Th := ⟨Tc v R, fun w => Fo 0 w v R, fun w h k hk => (h.tc hk).2, fun S w w' h fr hs => h.frame fr.size (fun g hg => fr.block g (h.tc hg).2 (hs g hg))⟩
def fov (v : Value) (R : List Rv) : Th → Prop := fun t => t = foTh v R
/-- a row of one's own, of any type -/
def rwTh (ty : TypeId) (sz : Nat) (v : Value) (n : Nat) (xs : List Value) : Th := ⟨fun k => v.ownBlock = some k, fun w => w.ownsRow 0 ty sz v n xs, fun w h k hk => (h.lt k hk).2, fun S w w' h fr hs => fr.own h hs⟩
def rwv (ty : TypeId) (sz : Nat) (v : Value) (n : Nat) (xs : List Value) : Th → Prop := fun t => t = rwTh ty sz v n xs
section
variable {w0 w w' : World} {Ls : List (Th → Prop)}
theorem EnvP.fo {v : Value} {R : List Rv} (h : EnvP w0 w Ls) (i : Nat) (hi : Ls[i]? = some (fov v R)) : Fo 0 w v R := by
  obtain ⟨t, rfl, ha, _⟩ := h.get i _ hi
  exact ha
theorem EnvP.foSet {v v' : Value} {R R' : List Rv} (h : EnvP w0 w Ls) (i : Nat) (hi : Ls[i]? = some (fov v R)) (hf : Fr (Tc v R) w w') (h' : Fo 0 w' v' R') (hn : ∀ k, Tc v' R' k → Tc v R k ∨ w.heap.size ≤ k) : EnvP w0 w' (Ls.set i (fov v' R')) := by
  obtain ⟨t, rfl, _, _, hs⟩ := h.get i _ hi
  exact hs w' (foTh v' R') _ rfl hf h' hn
theorem EnvP.foPush {v : Value} {R : List Rv} (h : EnvP w0 w Ls) (b : Below w.heap.size w w') (ho : Fo w.heap.size w' v R) : EnvP w0 w' (Ls ++ [fov v R]) :=
  h.push (foTh v R) (fov v R) rfl b (ho.base (Nat.zero_le _)) (fun k hk => (ho.tc hk).1)
theorem EnvP.rw {ty : TypeId} {sz : Nat} {v : Value} {n : Nat} {xs : List Value} (h : EnvP w0 w Ls) (i : Nat) (hi : Ls[i]? = some (rwv ty sz v n xs)) : w.ownsRow 0 ty sz v n xs := by
  obtain ⟨t, rfl, ha, _⟩ := h.get i _ hi
  exact ha
theorem EnvP.rwSet {ty : TypeId} {sz : Nat} {v v' : Value} {n n' : Nat} {xs xs' : List Value} (h : EnvP w0 w Ls) (i : Nat) (hi : Ls[i]? = some (rwv ty sz v n xs)) (hf : Fr (fun k => v.ownBlock = some k) w w') (h' : w'.ownsRow 0 ty sz v' n' xs') (hn : ∀ k, v'.ownBlock = some k → v.ownBlock = some k ∨ w.heap.size ≤ k) : EnvP w0 w' (Ls.set i (rwv ty sz v' n' xs')) := by
  obtain ⟨t, rfl, _, _, hs⟩ := h.get i _ hi
  exact hs w' (rwTh ty sz v' n' xs') _ rfl hf h' hn
theorem EnvP.rwPush {ty : TypeId} {sz : Nat} {v : Value} {n : Nat} {xs : List Value} (h : EnvP w0 w Ls) (b : Below w.heap.size w w') (ho : w'.ownsRow w.heap.size ty sz v n xs) : EnvP w0 w' (Ls ++ [rwv ty sz v n xs]) := by
  refine h.push (rwTh ty sz v n xs) (rwv ty sz v n xs) rfl b ⟨ho.1, ?_⟩ (fun k hk => (ho.lt k hk).1)
  rcases ho.2 with e | ⟨g, cap, cur, e1, e2, e3⟩
  · exact Or.inl e
  · exact Or.inr ⟨g, cap, cur, e1, Nat.zero_le _, e3⟩
end
end Go.Proofs.YtgcdnanfnbdjjaaGreat

/- Things told by an index, no two of which share a block; the book's. -/
namespace Go.Proofs.YtgcdnanfnbdjjaaGreat
set_option linter.unusedVariables false
set_option linter.unusedSimpArgs false
open Go.RowKit
abbrev Ix := Nat × Nat
structure EnvF (w0 w : World) (F : Ix → Option Th) : Prop where
  at' : ∀ i t, F i = some t → t.at' w
  apart : ∀ i j s t k, ¬ i = j → F i = some s → F j = some t → s.foot k → ¬ t.foot k
  own : ∀ i t k, F i = some t → t.foot k → w0.heap.size ≤ k
  bel : Below w0.heap.size w0 w
def upd (F : Ix → Option Th) (i : Ix) (t : Option Th) : Ix → Option Th := fun j => if j = i then t else F j
theorem upd_get {F : Ix → Option Th} {i j : Ix} {t u : Th} (h : upd F i (some t) j = some u) : (j = i ∧ u = t) ∨ (¬ j = i ∧ F j = some u) := by
  unfold upd at h
  split at h
  · rename_i e; exact .inl ⟨e, (Option.some.inj h).symm⟩
  · rename_i e; exact .inr ⟨e, h⟩
section
variable {w0 w w' : World} {F : Ix → Option Th}
theorem EnvF.below (h : EnvF w0 w F) (b : Below w.heap.size w w') : EnvF w0 w' F :=
  ⟨fun i t hi => t.kept (fun _ => False) w w' (h.at' i t hi) (Fr.of_below b) (fun _ _ e => e), h.apart, h.own, h.bel.trans (b.mono h.bel.size)⟩
theorem EnvF.step (h : EnvF w0 w F) (i : Ix) (s t : Th) (hi : F i = some s) (fr : Fr s.foot w w') (ha : t.at' w') (nw : ∀ k, t.foot k → s.foot k ∨ w.heap.size ≤ k) : EnvF w0 w' (upd F i (some t)) := by
  refine ⟨fun j u hj => ?_, fun j k u v b hne hu hv hf => ?_, fun j u k hj hk => ?_, h.bel.trans (fr.below h.bel.size (fun k hk => h.own i s k hi hk))⟩
  · rcases upd_get hj with ⟨_, rfl⟩ | ⟨hne, h1⟩
    · exact ha
    · exact u.kept s.foot w w' (h.at' j u h1) fr (fun k hk => h.apart j i u s k hne h1 hi hk)
  · rcases upd_get hu with ⟨e1, rfl⟩ | ⟨h1, h2⟩
    · rcases upd_get hv with ⟨e2, rfl⟩ | ⟨h3, h4⟩
      · exact absurd (e1.trans e2.symm) hne
      · rcases nw b hf with q | q
        · exact h.apart i k s v b (fun e => h3 e.symm) hi h4 q
        · exact fun e => by have := v.lt w (h.at' k v h4) b e; omega
    · rcases upd_get hv with ⟨e2, rfl⟩ | ⟨h3, h4⟩
      · intro e
        rcases nw b e with q | q
        · exact h.apart j i u s b h1 h2 hi hf q
        · have := u.lt w (h.at' j u h2) b hf; omega
      · exact h.apart j k u v b hne h2 h4 hf
  · rcases upd_get hj with ⟨_, rfl⟩ | ⟨_, h2⟩
    · rcases nw k hk with q | q
      · exact h.own i s k hi q
      · exact Nat.le_trans h.bel.size q
    · exact h.own j u k h2 hk
theorem EnvF.push (h : EnvF w0 w F) (i : Ix) (t : Th) (b : Below w.heap.size w w') (ha : t.at' w') (hf : ∀ k, t.foot k → w.heap.size ≤ k) : EnvF w0 w' (upd F i (some t)) := by
  have hb := h.below b
  refine ⟨fun j u hj => ?_, fun j k u v b hne hu hv hfu => ?_, fun j u k hj hk => ?_, hb.bel⟩
  · rcases upd_get hj with ⟨_, rfl⟩ | ⟨_, h1⟩
    · exact ha
    · exact hb.at' j u h1
  · rcases upd_get hu with ⟨e1, rfl⟩ | ⟨h1, h2⟩
    · rcases upd_get hv with ⟨e2, rfl⟩ | ⟨h3, h4⟩
      · exact absurd (e1.trans e2.symm) hne
      · intro e
        have := hf b hfu
        have := v.lt w (h.at' k v h4) b e
        omega
    · rcases upd_get hv with ⟨e2, rfl⟩ | ⟨h3, h4⟩
      · intro e
        have := hf b e
        have := u.lt w (h.at' j u h2) b hfu
        omega
      · exact h.apart j k u v b hne h2 h4 hfu
  · rcases upd_get hj with ⟨_, rfl⟩ | ⟨_, h2⟩
    · exact Nat.le_trans h.bel.size (hf k hk)
    · exact h.own j u k h2 hk
theorem EnvF.forget (h : EnvF w0 w F) (F' : Ix → Option Th) (hF : ∀ i t, F' i = some t → F i = some t) : EnvF w0 w F' :=
  ⟨fun i t hi => h.at' i t (hF i t hi), fun i j s t k hne hi hj => h.apart i j s t k hne (hF i s hi) (hF j t hj), fun i t k hi => h.own i t k (hF i t hi), h.bel⟩
theorem EnvF.is (h : EnvF w0 w F) {F' : Ix → Option Th} (hF : F' = F) : EnvF w0 w F' := by rw [hF]; exact h
theorem EnvF.drew (h : EnvF w0 w F) : EnvF w0 w.drew F := h.below (Below.refl _ _).drew
theorem EnvF.alloc (h : EnvF w0 w F) (i : Ix) (cs : Array Value) (ty : TypeId) : EnvF w0 (w.alloc (.cells cs ty)) (upd F i (some (obTh w.heap.size cs ty))) :=
  h.push i (obTh w.heap.size cs ty) ((Below.refl _ _).alloc (Nat.le_refl _) _) (heap_alloc_new w _) (fun k hk => Nat.le_of_eq hk.symm)
theorem EnvF.heap {b : Nat} {cs : Array Value} {ty : TypeId} (h : EnvF w0 w F) (i : Ix) (hi : F i = some (obTh b cs ty)) : w.heap[b]? = some (.cells cs ty (0, 0)) := h.at' i _ hi
theorem EnvF.cell {b : Nat} {cs : Array Value} {ty : TypeId} (h : EnvF w0 w F) (i : Ix) (hi : F i = some (obTh b cs ty)) (j : Nat) : w.cell? ⟨b, j, none⟩ = cs[j]? := cell_of_row w b j cs ty (0, 0) (h.heap i hi)
theorem EnvF.frozen {b : Nat} {cs : Array Value} {ty : TypeId} (h : EnvF w0 w F) (i : Ix) (hi : F i = some (obTh b cs ty)) (j : Nat) : w.frozen? ⟨b, j, none⟩ = false := frozen_of_row w b j cs ty (h.heap i hi)
theorem EnvF.setCell {b : Nat} {cs : Array Value} {ty : TypeId} (h : EnvF w0 w F) (i : Ix) (hi : F i = some (obTh b cs ty)) (j : Nat) (v : Value) : EnvF w0 (w.setCell ⟨b, j, none⟩ v) (upd F i (some (obTh b (cs.setIfInBounds j v) ty))) :=
  h.step i _ (obTh b (cs.setIfInBounds j v) ty) hi (fr_set w b j v rfl) (eth_set w b j cs ty v (h.at' i _ hi)) (fun k hk => .inl hk)
theorem EnvF.nil (w : World) : EnvF w w (fun _ => none) := ⟨fun i t h => by simp at h, fun i j s t k _ h => by simp at h, fun i t k h => by simp at h, Below.refl _ _⟩
theorem EnvF.foPush {v : Value} {R : List Rv} (h : EnvF w0 w F) (i : Ix) (b : Below w.heap.size w w') (ho : Fo w.heap.size w' v R) : EnvF w0 w' (upd F i (some (foTh v R))) :=
  h.push i (foTh v R) b (ho.base (Nat.zero_le _)) (fun k hk => (ho.tc hk).1)
theorem EnvF.foSet {v v' : Value} {R R' : List Rv} (h : EnvF w0 w F) (i : Ix) (hi : F i = some (foTh v R)) (hf : Fr (Tc v R) w w') (h' : Fo 0 w' v' R') (hn : ∀ k, Tc v' R' k → Tc v R k ∨ w.heap.size ≤ k) : EnvF w0 w' (upd F i (some (foTh v' R'))) :=
  h.step i _ (foTh v' R') hi hf h' hn
theorem EnvF.rwPush {ty : TypeId} {sz : Nat} {v : Value} {n : Nat} {xs : List Value} (h : EnvF w0 w F) (i : Ix) (b : Below w.heap.size w w') (ho : w'.ownsRow w.heap.size ty sz v n xs) : EnvF w0 w' (upd F i (some (rwTh ty sz v n xs))) := by
  refine h.push i (rwTh ty sz v n xs) b ⟨ho.1, ?_⟩ (fun k hk => (ho.lt k hk).1)
  rcases ho.2 with e | ⟨g, cap, cur, e1, e2, e3⟩
  · exact Or.inl e
  · exact Or.inr ⟨g, cap, cur, e1, Nat.zero_le _, e3⟩
theorem EnvF.rwSet {ty : TypeId} {sz : Nat} {v v' : Value} {n n' : Nat} {xs xs' : List Value} (h : EnvF w0 w F) (i : Ix) (hi : F i = some (rwTh ty sz v n xs)) (hf : Fr (fun k => v.ownBlock = some k) w w') (h' : w'.ownsRow 0 ty sz v' n' xs') (hn : ∀ k, v'.ownBlock = some k → v.ownBlock = some k ∨ w.heap.size ≤ k) : EnvF w0 w' (upd F i (some (rwTh ty sz v' n' xs'))) :=
  h.step i _ (rwTh ty sz v' n' xs') hi hf h' hn
/-- a store below all things -/
theorem EnvF.low (h : EnvF w0 w F) (g j : Nat) (v : Value) (hg : g < w0.heap.size) : EnvF (w0.setCell ⟨g, j, none⟩ v) (w.setCell ⟨g, j, none⟩ v) F := by
  have hs : ∀ u : World, (u.setCell ⟨g, j, none⟩ v).heap.size = u.heap.size := fun u => by simp
  refine ⟨fun i t hi => t.kept (fun k => k = g) w _ (h.at' i t hi) (fr_set w g j v rfl) (fun k hk e => by have := h.own i t k hi hk; omega), h.apart, fun i t k hi hk => by rw [hs]; exact h.own i t k hi hk, ?_⟩
  refine ⟨h.bel.os, h.bel.tape, h.bel.output, by rw [hs, hs]; exact h.bel.size, fun k hk => ?_⟩
  rw [hs] at hk
  have hb := h.bel.block k hk
  by_cases e : k = g
  · subst e
    unfold World.setCell
    simp only [Array.getElem?_modify]
    simp [hb]
  · rw [heap_setCell_other _ _ _ _ e, heap_setCell_other _ _ _ _ e]
    exact hb
end
/-- the things by kind and place -/
def TF (Ls : List (List Th)) : Ix → Option Th := fun i => (Ls.getD i.1 [])[i.2]?
theorem tf_push (Ls : List (List Th)) (k : Nat) (hk : k < Ls.length) (t : Th) : upd (TF Ls) (k, (Ls.getD k []).length) (some t) = TF (Ls.set k (Ls.getD k [] ++ [t])) := by
  funext ⟨i, j⟩
  unfold upd TF
  by_cases e : i = k
  · subst e
    simp only [List.getD_eq_getElem?_getD, List.getElem?_set_self hk, Option.getD_some, Prod.mk.injEq, true_and]
    by_cases e2 : j = ((Ls[i]?).getD []).length
    · subst e2; simp
    · rw [if_neg e2]
      by_cases e3 : j < ((Ls[i]?).getD []).length
      · rw [List.getElem?_append_left e3]
      · rw [List.getElem?_eq_none (by omega), List.getElem?_eq_none (by rw [List.length_append]; simp; omega)]
  · rw [if_neg (by simp [e])]
    simp only [List.getD_eq_getElem?_getD]
    rw [List.getElem?_set_ne (fun q => e q.symm)]
theorem tf_set (Ls : List (List Th)) (k i : Nat) (hk : k < Ls.length) (hi : i < (Ls.getD k []).length) (t : Th) : upd (TF Ls) (k, i) (some t) = TF (Ls.set k ((Ls.getD k []).set i t)) := by
  funext ⟨i', j⟩
  unfold upd TF
  by_cases e : i' = k
  · subst e
    simp only [List.getD_eq_getElem?_getD, List.getElem?_set_self hk, Option.getD_some, Prod.mk.injEq, true_and] at hi ⊢
    by_cases e2 : j = i
    · subst e2; rw [if_pos rfl, List.getElem?_set_self hi]
    · rw [if_neg e2, List.getElem?_set_ne (fun q => e2 q.symm)]
  · rw [if_neg (by simp [e])]
    simp only [List.getD_eq_getElem?_getD]
    rw [List.getElem?_set_ne (fun q => e q.symm)]
section
variable {w0 w w' : World} {Ls : List (List Th)}
theorem EnvF.tPush (h : EnvF w0 w (TF Ls)) (k : Nat) (hk : k < Ls.length) (t : Th) (b : Below w.heap.size w w') (ha : t.at' w') (hf : ∀ j, t.foot j → w.heap.size ≤ j) : EnvF w0 w' (TF (Ls.set k (Ls.getD k [] ++ [t]))) := by
  rw [← tf_push Ls k hk t]
  exact h.push _ t b ha hf
theorem EnvF.tSet (h : EnvF w0 w (TF Ls)) (k i : Nat) (s t : Th) (hi : TF Ls (k, i) = some s) (fr : Fr s.foot w w') (ha : t.at' w') (nw : ∀ j, t.foot j → s.foot j ∨ w.heap.size ≤ j) : EnvF w0 w' (TF (Ls.set k ((Ls.getD k []).set i t))) := by
  have hil : i < (Ls.getD k []).length := (List.getElem?_eq_some_iff.1 hi).1
  have hk : k < Ls.length := by
    rcases Nat.lt_or_ge k Ls.length with q | q
    · exact q
    · rw [List.getD_eq_getElem?_getD, List.getElem?_eq_none q] at hil; simp at hil
  rw [← tf_set Ls k i hk hil t]
  exact h.step _ s t hi fr ha nw
theorem EnvF.tAlloc (h : EnvF w0 w (TF Ls)) (k : Nat) (hk : k < Ls.length) (cs : Array Value) (ty : TypeId) : EnvF w0 (w.alloc (.cells cs ty)) (TF (Ls.set k (Ls.getD k [] ++ [obTh w.heap.size cs ty]))) :=
  h.tPush k hk (obTh w.heap.size cs ty) ((Below.refl _ _).alloc (Nat.le_refl _) _) (heap_alloc_new w _) (fun k hk => Nat.le_of_eq hk.symm)
theorem EnvF.tFo {v : Value} {R : List Rv} (h : EnvF w0 w (TF Ls)) (k : Nat) (hk : k < Ls.length) (b : Below w.heap.size w w') (ho : Fo w.heap.size w' v R) : EnvF w0 w' (TF (Ls.set k (Ls.getD k [] ++ [foTh v R]))) :=
  h.tPush k hk (foTh v R) b (ho.base (Nat.zero_le _)) (fun k hk => (ho.tc hk).1)
theorem EnvF.tRw {ty : TypeId} {sz : Nat} {v : Value} {n : Nat} {xs : List Value} (h : EnvF w0 w (TF Ls)) (k : Nat) (hk : k < Ls.length) (b : Below w.heap.size w w') (ho : w'.ownsRow w.heap.size ty sz v n xs) : EnvF w0 w' (TF (Ls.set k (Ls.getD k [] ++ [rwTh ty sz v n xs]))) := by
  rw [← tf_push Ls k hk _]
  exact h.rwPush _ b ho
theorem EnvF.tCell {b : Nat} {cs : Array Value} {ty : TypeId} (h : EnvF w0 w (TF Ls)) (k i : Nat) (hi : TF Ls (k, i) = some (obTh b cs ty)) (j : Nat) (v : Value) : EnvF w0 (w.setCell ⟨b, j, none⟩ v) (TF (Ls.set k ((Ls.getD k []).set i (obTh b (cs.setIfInBounds j v) ty)))) :=
  h.tSet k i _ (obTh b (cs.setIfInBounds j v) ty) hi (fr_set w b j v rfl) (eth_set w b j cs ty v (h.at' _ _ hi)) (fun k hk => .inl hk)
end
/-- append onto a row among the things -/
theorem app_rw {ops : Array Oper} {rest : List Oper} {o : Oper} {a : Act} {Q : Exit → Act → World → Prop} {W : World} (hgd : o.guard = none) (s x : Operand) (ty : TypeId) (ho : o.op = .call { callee := .builtin .append, args := #[s, x], argTypes := #[ty, ty] })
    {e : TypeId} {z : Value} {sz by' : Nat} (hu : Tryz.prog.underlying ty = some (.slice e)) (hinf : ∃ i, Tryz.prog.info? e = some i ∧ i.zero = some z ∧ i.size = sz ∧ i.bytes = by') (hz : z.cells.size = sz) (hs0 : 0 < sz) (hby : by' ≤ 1000)
    {w0 w : World} {Ls : List (List Th)} (E : EnvF w0 w (TF Ls)) {v : Value} {n m g : Nat} {xs : List Value} (k i : Nat) (hi : TF Ls (k, i) = some (rwTh e sz v n xs)) (ys : List Value) (hW : W = w.alloc (.cells ys.toArray e)) (hl : ys.length = m * sz) (hy : ∀ u ∈ ys, u.oneCell' = true) (hm : 0 < m) (hn : n + m ≤ 1000000) (hg : g = w.heap.size)
    (hs : a.eval s = v) (hx : a.eval x = .slice (some ⟨g, 0, none⟩) m m)
    (h : ∀ g' cap w', EnvF w0 w' (TF (Ls.set k ((Ls.getD k []).set i (rwTh e sz (.slice (some ⟨g', 0, none⟩) (n + m) cap) (n + m) (xs ++ ys))))) → wpList Tryz.prog ops Q rest (a.put o.dst (.slice (some ⟨g', 0, none⟩) (n + m) cap)) w') :
    wpList Tryz.prog ops Q (o :: rest) a W := by
  obtain ⟨i0, hi0, hz0, hz1, hz2⟩ := hinf
  subst hW hg
  have hmx : maxLen = 9223372036854775807 := rfl
  have hO : w.ownsRow 0 e sz v n xs := E.at' _ _ hi
  have E2 := E.below ((Below.refl w.heap.size w).alloc (Nat.le_refl _) (.cells ys.toArray e))
  refine wpList_append_lies _ hgd s x ty ho 0 e i0 z sz by' hu hi0 hz0 hz1 hz2 hz hs0 v n xs hs (hO.alloc _) _ m m ys hx hl
    (World.news_of_block (cs := ys.toArray) (t := e) (fr := (0, 0)) (heap_alloc_new w _)) hy hm (by rw [hmx]; omega) (Nat.le_trans (Nat.mul_le_mul hn hby) (by omega)) (Nat.zero_le _) _ rfl ?_
  intro g2 cap2 w' hown hgrow hat hlt
  refine h g2 cap2 w' (E2.tSet k i _ _ hi (Fr.of_grown hgrow (fun k hk => hk)) hown (fun j hj => ?_))
  have hj : g2 = j := by simpa [rwTh, Value.ownBlock] using hj
  subst hj
  rcases hat with q | q
  · exact .inl q
  · exact .inr (by omega)
end Go.Proofs.YtgcdnanfnbdjjaaGreat

/- The book's things. -/
namespace Go.Proofs.YtgcdnanfnbdjjaaGreat
set_option linter.unusedVariables false
set_option linter.unusedSimpArgs false
open Go.RowKit
attribute [local go_sem ↓] Go.wp_at_zero Go.wp_at_succ
theorem infoBf : (Tryz.prog.info? 24).map (fun i => (i.zero, i.size, i.bytes)) = some (some (.agg #[.int .i64 0, .slice none 0 0]), 2, 32) := by kernel_rfl
theorem infoB : ∃ i, Tryz.prog.info? 24 = some i ∧ i.zero = some (.agg #[.int .i64 0, .slice none 0 0]) ∧ i.size = 2 ∧ i.bytes = 32 := info_parts infoBf
theorem infoRf : (Tryz.prog.info? 58).map (fun i => (i.zero, i.size, i.bytes)) = some (some (.slice none 0 0), 1, 24) := by kernel_rfl
theorem infoR : ∃ i, Tryz.prog.info? 58 = some i ∧ i.zero = some (.slice none 0 0) ∧ i.size = 1 ∧ i.bytes = 24 := info_parts infoRf
theorem at_app {ops : Array Oper} {rest : List Oper} {o : Oper} {a : Act} {Q : Exit → Act → World → Prop} {W : World} {s x : Operand} {t : TypeId} (ho : o.op = .call { callee := .builtin .append, args := #[s, x], argTypes := #[t, t] }) (h : wpList Tryz.prog ops Q (o :: rest) a W) : wpList Tryz.prog ops Q (o :: rest) a W := h
/-- .. at a step of a region that draws -/
theorem step_rw {ops : Array Oper} {o : Oper} {a : Act} {K : Act → World → Prop} {Q : Exit → Act → World → Prop} {E' : Prop} {W : World} (hgd : o.guard = none) (s x : Operand) (ty : TypeId) (ho : o.op = .call { callee := .builtin .append, args := #[s, x], argTypes := #[ty, ty] })
    {e : TypeId} {z : Value} {sz by' : Nat} (hu : Tryz.prog.underlying ty = some (.slice e)) (hinf : ∃ i, Tryz.prog.info? e = some i ∧ i.zero = some z ∧ i.size = sz ∧ i.bytes = by') (hz : z.cells.size = sz) (hs0 : 0 < sz) (hby : by' ≤ 1000)
    {w0 w : World} {Ls : List (List Th)} (E : EnvF w0 w (TF Ls)) {v : Value} {n m g : Nat} {xs : List Value} (k i : Nat) (hi : TF Ls (k, i) = some (rwTh e sz v n xs)) (ys : List Value) (hW : W = w.alloc (.cells ys.toArray e)) (hl : ys.length = m * sz) (hy : ∀ u ∈ ys, u.oneCell' = true) (hm : 0 < m) (hn : n + m ≤ 1000000) (hg : g = w.heap.size)
    (hs : a.eval s = v) (hx : a.eval x = .slice (some ⟨g, 0, none⟩) m m)
    (h : ∀ g' cap w', EnvF w0 w' (TF (Ls.set k ((Ls.getD k []).set i (rwTh e sz (.slice (some ⟨g', 0, none⟩) (n + m) cap) (n + m) (xs ++ ys))))) → K (a.put o.dst (.slice (some ⟨g', 0, none⟩) (n + m) cap)) w') :
    if Region.wanted o (yielded ops a.tmps) = true then Oper.wp Tryz.prog o a W K Q else E' := by
  obtain ⟨i0, hi0, hz0, hz1, hz2⟩ := hinf
  subst hW hg
  have hmx : maxLen = 9223372036854775807 := rfl
  have hO : w.ownsRow 0 e sz v n xs := E.at' _ _ hi
  have E2 := E.below ((Below.refl w.heap.size w).alloc (Nat.le_refl _) (.cells ys.toArray e))
  refine step_append_lies _ hgd s x ty ho 0 e i0 z sz by' hu hi0 hz0 hz1 hz2 hz hs0 v n xs hs (hO.alloc _) _ m m ys hx hl
    (World.news_of_block (cs := ys.toArray) (t := e) (fr := (0, 0)) (heap_alloc_new w _)) hy hm (by rw [hmx]; omega) (Nat.le_trans (Nat.mul_le_mul hn hby) (by omega)) (Nat.zero_le _) _ rfl ?_
  intro g2 cap2 w' hown hgrow hat hlt
  refine h g2 cap2 w' (E2.tSet k i _ _ hi (Fr.of_grown hgrow (fun k hk => hk)) hown (fun j hj => ?_))
  have hj : g2 = j := by simpa [rwTh, Value.ownBlock] using hj
  subst hj
  rcases hat with q | q
  · exact .inl q
  · exact .inr (by omega)
theorem at_stp {ops : Array Oper} {o : Oper} {a : Act} {K : Act → World → Prop} {Q : Exit → Act → World → Prop} {E' : Prop} {W : World} {f : Nat} {args : Array Operand} {ts : Array TypeId} (ho : o.op = .call { callee := .value (.func f), args := args, argTypes := ts }) (h : if Region.wanted o (yielded ops a.tmps) = true then Oper.wp Tryz.prog o a W K Q else E') : if Region.wanted o (yielded ops a.tmps) = true then Oper.wp Tryz.prog o a W K Q else E' := h
theorem at_sta {ops : Array Oper} {o : Oper} {a : Act} {K : Act → World → Prop} {Q : Exit → Act → World → Prop} {E' : Prop} {W : World} {args : Array Operand} {ts : Array TypeId} (ho : o.op = .call { callee := .builtin .append, args := args, argTypes := ts }) (h : if Region.wanted o (yielded ops a.tmps) = true then Oper.wp Tryz.prog o a W K Q else E') : if Region.wanted o (yielded ops a.tmps) = true then Oper.wp Tryz.prog o a W K Q else E' := h
theorem EnvF.noK {w0 w : World} {K : List Th} {r : List (List Th)} (h : EnvF w0 w (TF (K :: r))) : EnvF w0 w (TF ([] :: r)) := h.forget _ (fun i t hi => by
  obtain ⟨k, j⟩ := i
  cases k with
  | zero => simp [TF] at hi
  | succ k => simpa [TF] using hi)
theorem bList_w (L : List Vs) (next : Int) (k : List UInt8) (most : Int) (w : World) (a : Option Addr) (cap : Nat) (hs : SrtV L) (hL : Li w L a L.length cap) : Calls Tryz.prog 24 #[bv next a L.length cap, str k, .int .i64 most] w fun e w' => ∃ v, e = .returned v ∧ Wo w.heap.size w' v ((byK nw1 (L.drop (fndV L k))).take (msN most)) ∧ Below w.heap.size w w' := by
  refine (bList_any L next k most w a _ cap hL).mono ?_
  rintro e w' ⟨i, hi, h, v, rfl, ho, b⟩
  obtain rfl := h hs
  rw [evl_take _ _ _ _ (Nat.le_refl _)] at ho
  simp only [List.nil_append, List.length_nil, Int.natCast_zero, Int.sub_zero] at ho
  exact ⟨v, rfl, ho, b⟩
theorem bVersions_w (L : List Vs) (next : Int) (k : List UInt8) (most : Int) (w : World) (a : Option Addr) (cap : Nat) (hs : SrtV L) (hL : Li w L a L.length cap) : Calls Tryz.prog 25 #[bv next a L.length cap, str k, .int .i64 most] w fun e w' => ∃ v, e = .returned v ∧ Wo w.heap.size w' v ((byK rwsL (L.drop (fndV L k))).take (msN most)) ∧ Below w.heap.size w w' := by
  refine (bVersions_any L next k most w a _ cap hL).mono ?_
  rintro e w' ⟨i, hi, h, v, rfl, ho, b⟩
  obtain rfl := h hs
  rw [evv_take _ _ _ _ (Nat.le_refl _)] at ho
  simp only [List.nil_append, List.length_nil, Int.natCast_zero, Int.sub_zero] at ho
  exact ⟨v, rfl, ho, b⟩
theorem wo_sl {base : Nat} {w : World} {v : Value} {X : List Rw} (h : Wo base w v X) : ∃ a c, v = .slice a X.length c := by
  obtain ⟨a, c, e, _⟩ := h.sl
  exact ⟨a, c, e⟩
theorem ask_cells {w0 w : World} {Ls : List (List Th)} (h : EnvF w0 w (TF Ls)) {g : Nat} {y0 y1 : Value} (h2 : TF Ls (0, 1) = some (obTh (g + 1) #[y0, y1] 24)) : w.cell? ⟨g + 1, 0, none⟩ = some y0 ∧ w.cell? ⟨g + 1, 1, none⟩ = some y1 :=
  ⟨h.cell _ h2 0, h.cell _ h2 1⟩
/-- a list of versions in a book: its number, where it lies, what lies there -/
abbrev Bt := Int × Value × List Rv
abbrev Xt := Value × List Rw
abbrev Mt' := Vs × Option Addr × Nat
def foB (t : Bt) : Th := foTh t.2.1 t.2.2
def bcl (B : List Bt) : List Value := (B.map fun t => [.int .i64 t.1, t.2.1]).flatten
def woX (t : Xt) : Th := rwTh 73 4 t.1 t.2.length (wcells t.2)
def xcl (X : List Xt) : List Value := X.map (·.1)
def meM (t : Mt') : Th := rwTh 41 2 (.slice t.2.1 t.1.l.length t.2.2) t.1.l.length (pcells t.1.l)
def mcl (M : List Mt') : List Value := (M.map fun t => [str t.1.key, .int .i64 t.1.seq, .bool t.1.mkr, str t.1.data, .slice t.2.1 t.1.l.length t.2.2]).flatten
/-- the things of a book -/
def bookL (K : List Th) (x0 x1 x2 x3 x4 x5 : Value) (B W : List Bt) (X Y : List Xt) (M N : List Mt') : List (List Th) :=
  [K, [rwTh 24 2 x0 B.length (bcl B), rwTh 24 2 x1 W.length (bcl W), rwTh 58 1 x2 X.length (xcl X), rwTh 58 1 x3 Y.length (xcl Y), rwTh 39 5 x4 M.length (mcl M), rwTh 39 5 x5 N.length (mcl N)], B.map foB, W.map foB, X.map woX, Y.map woX, M.map meM, N.map meM]
def bval (t : Bt) : Int × List Vs := (t.1, t.2.2.map (·.v))
/-- a list that was answered -/
structure GB (t : Bt) : Prop where
  v : ∃ a c, t.2.1 = .slice a t.2.2.length c
  len : t.2.2.length ≤ 1000000
  z : ∀ r ∈ t.2.2, r.z = []
  l : ∀ r ∈ t.2.2, r.v.l.length ≤ 4398046510976
theorem fo_sl {base : Nat} {w : World} {v : Value} {R : List Rv} (h : Fo base w v R) : ∃ a c, v = .slice a R.length c := by
  obtain ⟨a, c, e, _⟩ := h.ls
  exact ⟨a, c, e⟩
theorem gb_of {n1 : Int} {X : List Vs} {ce : Int} (h : (¬ ce = 0 ∧ X = []) ∨ (ce = 0 ∧ RtB n1 X)) {R : List Rv} (hv : R.map (·.v) = X) (hz : ∀ r ∈ R, r.z = []) (m : Int) (a : Option Addr) (c : Nat) : GB (m, .slice a R.length c, R) := by
  have hl : R.length = X.length := by rw [← hv, List.length_map]
  refine ⟨⟨a, c, rfl⟩, ?_, hz, ?_⟩
  · show R.length ≤ _
    have := li_len h; omega
  · intro r hr
    have hm : r.v ∈ X := by rw [← hv]; exact List.mem_map_of_mem hr
    rcases h with ⟨_, rfl⟩ | ⟨_, hR⟩
    · simp at hm
    · exact rt_vl hR hm
end Go.Proofs.YtgcdnanfnbdjjaaGreat
