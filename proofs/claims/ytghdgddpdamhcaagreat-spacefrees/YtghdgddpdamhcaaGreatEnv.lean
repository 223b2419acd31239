/- Many things of the call's own side by side, no two of which share a block. -/
import Derived.Test.YtghdgddpdamhcaaGreatNew
import Derived.Test.YtghdgddpdamhcaaGreatCra
namespace Go.Proofs.YtghdgddpdamhcaaGreat
set_option linter.unusedVariables false
set_option linter.unusedSimpArgs false
open Go.RowKit
structure Th where
  foot : Nat → Prop
  at' : World → Prop
  lt : ∀ w, at' w → ∀ k, foot k → k < w.heap.size
  kept : ∀ (S : Nat → Prop) w w', at' w → Fr S w w' → (∀ k, foot k → ¬ S k) → at' w'
structure Env (w0 w : World) (L : List Th) : Prop where
  at' : ∀ (i : Nat) t, L[i]? = some t → t.at' w
  apart : ∀ (i j : Nat) s t k, i ≠ j → L[i]? = some s → L[j]? = some t → s.foot k → ¬ t.foot k
  own : ∀ (i : Nat) t k, L[i]? = some t → t.foot k → w0.heap.size ≤ k
  bel : Below w0.heap.size w0 w
section
variable {w0 w w' : World} {L : List Th}
theorem Env.below (h : Env w0 w L) (b : Below w.heap.size w w') : Env w0 w' L :=
  ⟨fun i t hi => t.kept (fun _ => False) w w' (h.at' i t hi) (Fr.of_below b) (fun _ _ e => e), h.apart, h.own, h.bel.trans (b.mono h.bel.size)⟩
theorem Env.step (h : Env w0 w L) (i : Nat) (s t : Th) (hi : L[i]? = some s) (fr : Fr s.foot w w') (ha : t.at' w') (nw : ∀ k, t.foot k → s.foot k ∨ w.heap.size ≤ k) : Env w0 w' (L.set i t) := by
  have hil : i < L.length := (List.getElem?_eq_some_iff.1 hi).1
  have get : ∀ (j : Nat) u, (L.set i t)[j]? = some u → (j = i ∧ u = t) ∨ (j ≠ i ∧ L[j]? = some u) := fun j u hj => by
    by_cases e : i = j
    · subst e
      rw [List.getElem?_set_self hil] at hj
      exact .inl ⟨rfl, (Option.some.inj hj).symm⟩
    · rw [List.getElem?_set_ne e] at hj
      exact .inr ⟨fun h => e h.symm, hj⟩
  refine ⟨fun j u hj => ?_, fun j k u v b hne hu hv hf => ?_, fun j u k hj hk => ?_, h.bel.trans (fr.below h.bel.size (fun k hk => h.own i s k hi hk))⟩
  · rcases get j u hj with ⟨_, rfl⟩ | ⟨hne, h1⟩
    · exact ha
    · exact u.kept s.foot w w' (h.at' j u h1) fr (fun k hk => h.apart j i u s k hne h1 hi hk)
  · rcases get j u hu with ⟨e1, rfl⟩ | ⟨h1, h2⟩
    · rcases get k v hv with ⟨e2, rfl⟩ | ⟨h3, h4⟩
      · exact absurd (e1.trans e2.symm) hne
      · rcases nw b hf with q | q
        · exact h.apart i k s v b (fun e => h3 e.symm) hi h4 q
        · exact fun e => by have := v.lt w (h.at' k v h4) b e; omega
    · rcases get k v hv with ⟨e2, rfl⟩ | ⟨h3, h4⟩
      · intro e
        rcases nw b e with q | q
        · exact h.apart j i u s b h1 h2 hi hf q
        · have := u.lt w (h.at' j u h2) b hf; omega
      · exact h.apart j k u v b hne h2 h4 hf
  · rcases get j u hj with ⟨_, rfl⟩ | ⟨_, h2⟩
    · rcases nw k hk with q | q
      · exact h.own i s k hi q
      · exact Nat.le_trans h.bel.size q
    · exact h.own j u k h2 hk
theorem Env.push (h : Env w0 w L) (t : Th) (b : Below w.heap.size w w') (ha : t.at' w') (hf : ∀ k, t.foot k → w.heap.size ≤ k) : Env w0 w' (L ++ [t]) := by
  have hb := h.below b
  have get : ∀ (j : Nat) u, (L ++ [t])[j]? = some u → (j = L.length ∧ u = t) ∨ (j < L.length ∧ L[j]? = some u) := fun j u hj => by
    by_cases e : j < L.length
    · rw [List.getElem?_append_left e] at hj
      exact .inr ⟨e, hj⟩
    · rw [List.getElem?_append_right (by omega)] at hj
      have h1 : j - L.length = 0 := by
        have := (List.getElem?_eq_some_iff.1 hj).1
        simpa using this
      rw [h1] at hj
      exact .inl ⟨by omega, (Option.some.inj hj).symm⟩
  refine ⟨fun j u hj => ?_, fun j k u v b hne hu hv hfu => ?_, fun j u k hj hk => ?_, hb.bel⟩
  · rcases get j u hj with ⟨_, rfl⟩ | ⟨_, h1⟩
    · exact ha
    · exact hb.at' j u h1
  · rcases get j u hu with ⟨e1, rfl⟩ | ⟨h1, h2⟩
    · rcases get k v hv with ⟨e2, rfl⟩ | ⟨h3, h4⟩
      · exact absurd (e1.trans e2.symm) hne
      · intro e
        have := hf b hfu
        have := v.lt w (h.at' k v h4) b e
        omega
    · rcases get k v hv with ⟨e2, rfl⟩ | ⟨h3, h4⟩
      · intro e
        have := hf b e
        have := u.lt w (h.at' j u h2) b hfu
        omega
      · exact h.apart j k u v b hne h2 h4 hfu
  · rcases get j u hj with ⟨_, rfl⟩ | ⟨_, h2⟩
    · exact Nat.le_trans h.bel.size (hf k hk)
    · exact h.own j u k h2 hk
theorem Env.nil (w : World) : Env w w [] := ⟨fun i t h => by simp at h, fun i j s t k _ h => by simp at h, fun i t k h => by simp at h, Below.refl _ _⟩
end
/-- the things, each told by what it is -/
def EnvP (w0 w : World) (Ls : List (Th → Prop)) : Prop := ∃ L : List Th, L.length = Ls.length ∧ (∀ (i : Nat) s t, Ls[i]? = some s → L[i]? = some t → s t) ∧ Env w0 w L
def diskTh (D : Dk) (st : St) : Th := ⟨D.foot, fun w => DiskAt w D st, fun w h => h.lt, fun S w w' h fr hs => h.kept fr hs⟩
def obTh (b : Nat) (cs : Array Value) (ty : TypeId) : Th := ⟨fun k => k = b, fun w => w.heap[b]? = some (.cells cs ty (0, 0)), fun w h k hk => by subst hk; exact heap_lt h, fun S w w' h fr hs => fr.heap h (hs b rfl)⟩
def dk (p : Nat) (st : St) : Th → Prop := fun t => ∃ D : Dk, D.p = p ∧ t = diskTh D st
def ob (b : Nat) (cs : Array Value) (ty : TypeId) : Th → Prop := fun t => t = obTh b cs ty
section
variable {w0 w w' : World} {Ls : List (Th → Prop)}
theorem EnvP.nil (w : World) : EnvP w w [] := ⟨[], rfl, fun i s t h => by simp at h, Env.nil w⟩
theorem EnvP.bel (h : EnvP w0 w Ls) : Below w0.heap.size w0 w := by obtain ⟨L, _, _, e⟩ := h; exact e.bel
theorem EnvP.below (h : EnvP w0 w Ls) (b : Below w.heap.size w w') : EnvP w0 w' Ls := by obtain ⟨L, h1, h2, e⟩ := h; exact ⟨L, h1, h2, e.below b⟩
theorem EnvP.get (h : EnvP w0 w Ls) (i : Nat) (s : Th → Prop) (hi : Ls[i]? = some s) : ∃ t, s t ∧ t.at' w ∧ (∀ k, t.foot k → w0.heap.size ≤ k) ∧
    ∀ w' (t' : Th) (s' : Th → Prop), s' t' → Fr t.foot w w' → t'.at' w' → (∀ k, t'.foot k → t.foot k ∨ w.heap.size ≤ k) → EnvP w0 w' (Ls.set i s') := by
  obtain ⟨L, h1, h2, e⟩ := h
  have hil : i < Ls.length := (List.getElem?_eq_some_iff.1 hi).1
  have ht : L[i]? = some L[i] := List.getElem?_eq_getElem (by omega)
  refine ⟨L[i], h2 i s _ hi ht, e.at' i _ ht, fun k hk => e.own i _ k ht hk, fun w' t' s' hs' fr ha nw => ⟨L.set i t', by simp [h1], fun j s2 t2 hj hk => ?_, e.step i _ t' ht fr ha nw⟩⟩
  by_cases hij : i = j
  · subst hij
    rw [List.getElem?_set_self (by omega)] at hj hk
    cases hj; cases hk; exact hs'
  · rw [List.getElem?_set_ne hij] at hj hk
    exact h2 j s2 t2 hj hk
theorem EnvP.push (h : EnvP w0 w Ls) (t : Th) (s : Th → Prop) (hs : s t) (b : Below w.heap.size w w') (ha : t.at' w') (hf : ∀ k, t.foot k → w.heap.size ≤ k) : EnvP w0 w' (Ls ++ [s]) := by
  obtain ⟨L, h1, h2, e⟩ := h
  refine ⟨L ++ [t], by simp [h1], fun j s2 t2 hj hk => ?_, e.push t b ha hf⟩
  by_cases hl : j < Ls.length
  · rw [List.getElem?_append_left hl] at hj
    rw [List.getElem?_append_left (by omega)] at hk
    exact h2 j s2 t2 hj hk
  · rw [List.getElem?_append_right (by omega)] at hj hk
    have h3 : j - Ls.length = 0 := by
      have := (List.getElem?_eq_some_iff.1 hj).1
      simpa using this
    rw [h1, h3] at hk
    rw [h3] at hj
    cases hj; cases hk; exact hs
theorem EnvP.disk {p : Nat} {st : St} (h : EnvP w0 w Ls) (i : Nat) (hi : Ls[i]? = some (dk p st)) : ∃ D : Dk, D.p = p ∧ DiskAt w D st ∧ (∀ k, D.foot k → w0.heap.size ≤ k) ∧ ∀ w' D' st', DiskAt w' D' st' → Stp w D w' D' → EnvP w0 w' (Ls.set i (dk p st')) := by
  obtain ⟨t, ⟨D, hp, rfl⟩, ha, ho, hn⟩ := h.get i _ hi
  exact ⟨D, hp, ha, ho, fun w' D' st' d s => hn w' (diskTh D' st') _ ⟨D', s.p.trans hp, rfl⟩ s.fr d s.nw⟩
theorem EnvP.heap {b : Nat} {cs : Array Value} {ty : TypeId} (h : EnvP w0 w Ls) (i : Nat) (hi : Ls[i]? = some (ob b cs ty)) : w.heap[b]? = some (.cells cs ty (0, 0)) := by
  obtain ⟨t, rfl, ha, _⟩ := h.get i _ hi
  exact ha
theorem EnvP.cell {b : Nat} {cs : Array Value} {ty : TypeId} (h : EnvP w0 w Ls) (i : Nat) (hi : Ls[i]? = some (ob b cs ty)) (j : Nat) : w.cell? ⟨b, j, none⟩ = cs[j]? := cell_of_row w b j cs ty (0, 0) (h.heap i hi)
theorem EnvP.frozen {b : Nat} {cs : Array Value} {ty : TypeId} (h : EnvP w0 w Ls) (i : Nat) (hi : Ls[i]? = some (ob b cs ty)) (j : Nat) : w.frozen? ⟨b, j, none⟩ = false := frozen_of_row w b j cs ty (h.heap i hi)
theorem EnvP.setCell {b : Nat} {cs : Array Value} {ty : TypeId} (h : EnvP w0 w Ls) (i : Nat) (hi : Ls[i]? = some (ob b cs ty)) (j : Nat) (v : Value) : EnvP w0 (w.setCell ⟨b, j, none⟩ v) (Ls.set i (ob b (cs.setIfInBounds j v) ty)) := by
  obtain ⟨t, rfl, ha, _, hn⟩ := h.get i _ hi
  exact hn _ (obTh b (cs.setIfInBounds j v) ty) _ rfl (fr_set w b j v rfl) (cell_set w b j cs ty v ha) (fun k hk => .inl hk)
theorem EnvP.ge {b : Nat} {cs : Array Value} {ty : TypeId} (h : EnvP w0 w Ls) (i : Nat) (hi : Ls[i]? = some (ob b cs ty)) : w0.heap.size ≤ b := by
  obtain ⟨t, rfl, ha, ho, _⟩ := h.get i _ hi
  exact ho b rfl
theorem EnvP.drew (h : EnvP w0 w Ls) : EnvP w0 w.drew Ls := h.below (Below.refl _ _).drew
theorem EnvP.alloc (h : EnvP w0 w Ls) (cs : Array Value) (ty : TypeId) : EnvP w0 (w.alloc (.cells cs ty)) (Ls ++ [ob w.heap.size cs ty]) :=
  h.push (obTh w.heap.size cs ty) _ rfl ((Below.refl _ _).alloc (Nat.le_refl _) _) (heap_alloc_new w _) (fun k hk => Nat.le_of_eq hk.symm)
theorem EnvP.drop (h : EnvP w0 w Ls) (o : Obj) : EnvP w0 (w.alloc o) Ls := h.below ((Below.refl _ _).alloc (Nat.le_refl _) _)
theorem EnvP.lt (h : EnvP w0 w Ls) : w0.heap.size ≤ w.heap.size := h.bel.size
end
/-! the calls, with all things about them -/
section
variable {w0 w : World} {Ls : List (Th → Prop)} {p : Nat} {st : St}
theorem write_env (h : EnvP w0 w Ls) (i : Nat) (hi : Ls[i]? = some (dk p st)) (n : Int) (t : ByteArray) (hp : st.pend.length < 9000000000000) {st' : St} {r : Int} (e : st.write n t = (st', r)) :
    Calls Tryz.prog 125 #[pt p, .int .i64 n, .string t] w fun e w' => e = .returned (.int .i64 r) ∧ EnvP w0 w' (Ls.set i (dk p st')) := by
  obtain ⟨D, rfl, d, _, hn⟩ := h.disk i hi
  refine (write_any D st n t w d hp).mono ?_
  rintro e w' ⟨rfl, D', d', s⟩
  rw [e] at d' ⊢
  exact ⟨rfl, hn _ _ _ d' s⟩
theorem flush_env (h : EnvP w0 w Ls) (i : Nat) (hi : Ls[i]? = some (dk p st)) (hp : st.pend.length ≤ 9000000000000) {st' : St} {r : Int} (e : st.flush = (st', r)) :
    Calls Tryz.prog 83 #[pt p] w fun e w' => e = .returned (.int .i64 r) ∧ EnvP w0 w' (Ls.set i (dk p st')) := by
  obtain ⟨D, rfl, d, _, hn⟩ := h.disk i hi
  refine (flush_any D st w d hp).mono ?_
  rintro e w' ⟨rfl, D', d', s⟩
  rw [e] at d' ⊢
  exact ⟨rfl, hn _ _ _ d' s⟩
theorem fall_env (h : EnvP w0 w Ls) (i : Nat) (hi : Ls[i]? = some (dk p st)) (n : Int) (hn : n ≤ 9223372036854775807) :
    Calls Tryz.prog 22 #[pt p, .int .i64 n] w fun e w' => e = .returned (.tuple #[]) ∧ EnvP w0 w' (Ls.set i (dk p (st.fallTo n))) := by
  obtain ⟨D, rfl, d, _, hn'⟩ := h.disk i hi
  refine (fall_any D st n w hn d).mono ?_
  rintro e w' ⟨rfl, d', s⟩
  exact ⟨rfl, hn' _ _ _ d' s⟩
theorem read_env (h : EnvP w0 w Ls) (i : Nat) (hi : Ls[i]? = some (dk p st)) (n : Int) {t : ByteArray} {r : Int} (e : st.read n = (t, r)) :
    Calls Tryz.prog 73 #[pt p, .int .i64 n] w fun e w' => e = .returned (.tuple #[.string t, .int .i64 r]) ∧ EnvP w0 w' Ls := by
  obtain ⟨D, rfl, d, _, hn⟩ := h.disk i hi
  refine (read_any D st n w d).mono ?_
  rintro e w' ⟨rfl, b⟩
  rw [e]
  exact ⟨rfl, h.below b⟩
theorem off_env (h : EnvP w0 w Ls) (i : Nat) (hi : Ls[i]? = some (dk p st)) {b : Bool} (e : st.off = b) : Calls Tryz.prog 49 #[pt p] w fun e w' => e = .returned (.bool b) ∧ w' = w := by
  obtain ⟨D, rfl, d, _, hn⟩ := h.disk i hi
  subst e
  exact off_any D st w d
theorem pending_env (h : EnvP w0 w Ls) (i : Nat) (hi : Ls[i]? = some (dk p st)) {n : Int} (e : (st.pend.length : Int) = n) : Calls Tryz.prog 82 #[pt p] w fun e w' => e = .returned (.int .i64 n) ∧ w' = w := by
  obtain ⟨D, rfl, d, _, hn⟩ := h.disk i hi
  subst e
  exact pending_any D st w d
theorem sectors_env (h : EnvP w0 w Ls) (i : Nat) (hi : Ls[i]? = some (dk p st)) {n : Int} (e : (st.safe.length : Int) = n) : Calls Tryz.prog 32 #[pt p] w fun e w' => e = .returned (.int .i64 n) ∧ w' = w := by
  obtain ⟨D, rfl, d, _, hn⟩ := h.disk i hi
  subst e
  exact sectors_any D st w d
theorem new_env (h : EnvP w0 w Ls) (n : Nat) (h1 : 1 ≤ n) (h2 : n ≤ 8192) : Calls Tryz.prog 51 #[.int .i64 (n : Int)] w fun e w' => ∃ q, e = .returned (.tuple #[pt q, .int .i64 0]) ∧ EnvP w0 w' (Ls ++ [dk q (fresh n)]) := by
  refine (new_any n w h1 h2).mono ?_
  rintro e w' ⟨D', rfl, d', b, f⟩
  exact ⟨D'.p, rfl, h.push (diskTh D' _) _ ⟨D', rfl, rfl⟩ b d' f⟩
end
/-- a row of integers of the call's own -/
def rowTh (v : Value) (n : Nat) (xs : List Value) : Th := ⟨fun k => v.ownBlock = some k, fun w => w.ownsRow 0 3 1 v n xs, fun w h k hk => (h.lt k hk).2, fun S w w' h fr hs => fr.own h (fun k hk => hs k hk)⟩
def rowI (v : Value) (zs : List Int) : Th → Prop := fun t => t = rowTh v zs.length (zs.map (Value.int .i64))
section
variable {w0 w w' : World} {Ls : List (Th → Prop)}
/-- the things in another order, or fewer of them -/
theorem EnvP.remap {Ls' : List (Th → Prop)} (h : EnvP w0 w Ls) (g : Nat → Nat) (hg : ∀ (i : Nat) s, Ls'[i]? = some s → Ls[g i]? = some s) (inj : ∀ i j, i < Ls'.length → j < Ls'.length → g i = g j → i = j) : EnvP w0 w Ls' := by
  obtain ⟨L, h1, h2, e⟩ := h
  have hlt : ∀ i, i < Ls'.length → g i < L.length := fun i hi => by
    have := (List.getElem?_eq_some_iff.1 (hg i _ (List.getElem?_eq_getElem hi))).1
    omega
  obtain ⟨L', hL', hget⟩ : ∃ L' : List Th, L'.length = Ls'.length ∧ ∀ (i : Nat) t, L'[i]? = some t → i < Ls'.length ∧ L[g i]? = some t := by
    refine ⟨(List.range Ls'.length).attach.map (fun x => L[g x.1]'(hlt x.1 (List.mem_range.1 x.2))), by simp, fun i t hi => ?_⟩
    have hil : i < Ls'.length := by
      have := (List.getElem?_eq_some_iff.1 hi).1
      simpa using this
    refine ⟨hil, ?_⟩
    rw [List.getElem?_map] at hi
    have ha : (List.range Ls'.length).attach[i]? = some ⟨i, List.mem_range.2 hil⟩ := by
      rw [List.getElem?_eq_getElem (by simpa using hil)]
      congr 1
      apply Subtype.ext
      simp
    rw [ha] at hi
    have : L[g i]'(hlt i hil) = t := by simpa using hi
    rw [List.getElem?_eq_getElem (hlt i hil), this]
  refine ⟨L', hL', fun i s t hi ht => h2 (g i) s t (hg i s hi) (hget i t ht).2, ⟨fun i t ht => e.at' (g i) t (hget i t ht).2, fun i j s t k hne hs ht => ?_, fun i t k ht => e.own (g i) t k (hget i t ht).2, e.bel⟩⟩
  exact e.apart (g i) (g j) s t k (fun hh => hne (inj i j (hget i s hs).1 (hget j t ht).1 hh)) (hget i s hs).2 (hget j t ht).2
theorem EnvP.front {x : Th → Prop} (h : EnvP w0 w (Ls ++ [x])) : EnvP w0 w (x :: Ls) := by
  refine h.remap (fun i => match i with | 0 => Ls.length | i + 1 => i) ?_ ?_
  · intro i s hi
    cases i with
    | zero => simp at hi ⊢; exact hi
    | succ i =>
      have hil : i < Ls.length := by
        have := (List.getElem?_eq_some_iff.1 hi).1
        simpa using this
      simp only [List.getElem?_cons_succ] at hi
      show (Ls ++ [x])[i]? = some s
      rw [List.getElem?_append_left hil]
      exact hi
  · intro i j hi hj e
    cases i with
    | zero =>
      cases j with
      | zero => rfl
      | succ j => simp at hj e; omega
    | succ i =>
      cases j with
      | zero => simp at hi e; omega
      | succ j => simp at e; omega
theorem EnvP.tail {x : Th → Prop} (h : EnvP w0 w (x :: Ls)) : EnvP w0 w Ls :=
  h.remap (fun i => i + 1) (fun i s hi => by simpa using hi) (fun i j _ _ e => by omega)
theorem EnvP.rowAt {v : Value} {zs : List Int} (h : EnvP w0 w Ls) (i : Nat) (hi : Ls[i]? = some (rowI v zs)) : w.ownsRow 0 3 1 v zs.length (zs.map (Value.int .i64)) := by
  obtain ⟨t, rfl, ha, _⟩ := h.get i _ hi
  exact ha
theorem EnvP.rowPush {v : Value} {zs : List Int} (h : EnvP w0 w Ls) (b : Below w.heap.size w w') (o : w'.ownsRow 0 3 1 v zs.length (zs.map (Value.int .i64))) (f : ∀ k, v.ownBlock = some k → w.heap.size ≤ k) : EnvP w0 w' (rowI v zs :: Ls) :=
  (h.push (rowTh v zs.length (zs.map (Value.int .i64))) (rowI v zs) rfl b o f).front
end
end Go.Proofs.YtghdgddpdamhcaaGreat
