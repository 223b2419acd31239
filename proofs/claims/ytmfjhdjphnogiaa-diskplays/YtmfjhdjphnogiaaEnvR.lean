/- The document's disk among the things; the calls on it; other orders of the things. -/
import Derived.Test.YtmfjhdjphnogiaaSam
import Derived.Test.YtmfjhdjphnogiaaTxt
namespace Go.Proofs.Ytmfjhdjphnogiaa
set_option linter.unusedVariables false
set_option linter.unusedSimpArgs false
open Go.RowKit
def refTh (R : Rk) (st : St) : Th := ⟨R.foot, fun w => RefAt w R st, fun w h => h.raw.lt, fun S w w' h fr hs => h.kept fr hs⟩
def rk (p : Nat) (st : St) : Th → Prop := fun t => ∃ R : Rk, R.p = p ∧ t = refTh R st
/-- a row of integers of the call's own -/
def rowTh (v : Value) (n : Nat) (xs : List Value) : Th := ⟨fun k => v.ownBlock = some k, fun w => w.ownsRow 0 3 1 v n xs, fun w h k hk => (h.lt k hk).2, fun S w w' h fr hs => fr.own h (fun k hk => hs k hk)⟩
def rowI (v : Value) (zs : List Int) : Th → Prop := fun t => t = rowTh v zs.length (zs.map (Value.int .i64))
section
variable {w0 w w' : World} {Ls : List (Th → Prop)}
/-- the things in another order, or fewer of them -/
theorem EnvP.remap {Ls' : List (Th → Prop)} (h : EnvP w0 w Ls) (g : Nat → Nat) (hg : ∀ (i : Nat) s, Ls'[i]? = some s → Ls[g i]? = some s) (inj : ∀ i j, i < Ls'.length → j < Ls'.length → g i = g j → i = j) : EnvP w0 w Ls' := by
  obtain ⟨L, h1, h2, e⟩ := h
  have hlt : ∀ i, i < Ls'.length → g i < L.length := fun i hi => by
    have := (List.getElem?_eq_some_iff.1 (hg i _ (List.getElem?_eq_getElem hi))).1
    omega
  obtain ⟨L', hL', hget⟩ : ∃ L' : List Th, L'.length = Ls'.length ∧ ∀ (i : Nat) t, L'[i]? = some t → i < Ls'.length ∧ L[g i]? = some t := by
    refine ⟨(List.range Ls'.length).attach.map (fun x => L[g x.1]'(hlt x.1 (List.mem_range.1 x.2))), by simp, fun i t hi => ?_⟩
    have hil : i < Ls'.length := by
      have := (List.getElem?_eq_some_iff.1 hi).1
      simpa using this
    refine ⟨hil, ?_⟩
    rw [List.getElem?_map] at hi
    have ha : (List.range Ls'.length).attach[i]? = some ⟨i, List.mem_range.2 hil⟩ := by
      rw [List.getElem?_eq_getElem (by simpa using hil)]
      congr 1
      apply Subtype.ext
      simp
    rw [ha] at hi
    have : L[g i]'(hlt i hil) = t := by simpa using hi
    rw [List.getElem?_eq_getElem (hlt i hil), this]
  refine ⟨L', hL', fun i s t hi ht => h2 (g i) s t (hg i s hi) (hget i t ht).2, ⟨fun i t ht => e.at' (g i) t (hget i t ht).2, fun i j s t k hne hs ht => ?_, fun i t k ht => e.own (g i) t k (hget i t ht).2, e.bel⟩⟩
  exact e.apart (g i) (g j) s t k (fun hh => hne (inj i j (hget i s hs).1 (hget j t ht).1 hh)) (hget i s hs).2 (hget j t ht).2
theorem EnvP.front {x : Th → Prop} (h : EnvP w0 w (Ls ++ [x])) : EnvP w0 w (x :: Ls) := by
  refine h.remap (fun i => match i with | 0 => Ls.length | i + 1 => i) ?_ ?_
  · intro i s hi
    cases i with
    | zero => simp at hi ⊢; exact hi
    | succ i =>
      have hil : i < Ls.length := by
        have := (List.getElem?_eq_some_iff.1 hi).1
        simpa using this
      simp only [List.getElem?_cons_succ] at hi
      show (Ls ++ [x])[i]? = some s
      rw [List.getElem?_append_left hil]
      exact hi
  · intro i j hi hj e
    cases i with
    | zero =>
      cases j with
      | zero => rfl
      | succ j => simp at hj e; omega
    | succ i =>
      cases j with
      | zero => simp at hi e; omega
      | succ j => simp at e; omega
theorem EnvP.tail {x : Th → Prop} (h : EnvP w0 w (x :: Ls)) : EnvP w0 w Ls :=
  h.remap (fun i => i + 1) (fun i s hi => by simpa using hi) (fun i j _ _ e => by omega)
theorem EnvP.ref {p : Nat} {st : St} (h : EnvP w0 w Ls) (i : Nat) (hi : Ls[i]? = some (rk p st)) : ∃ R : Rk, R.p = p ∧ RefAt w R st ∧ (∀ k, R.foot k → w0.heap.size ≤ k) ∧ ∀ w' R' st', RefAt w' R' st' → RStp w R w' R' → EnvP w0 w' (Ls.set i (rk p st')) := by
  obtain ⟨t, ⟨R, hp, rfl⟩, ha, ho, hn⟩ := h.get i _ hi
  exact ⟨R, hp, ha, ho, fun w' R' st' d s => hn w' (refTh R' st') _ ⟨R', s.p.trans hp, rfl⟩ s.fr d s.nw⟩
theorem EnvP.rowAt {v : Value} {zs : List Int} (h : EnvP w0 w Ls) (i : Nat) (hi : Ls[i]? = some (rowI v zs)) : w.ownsRow 0 3 1 v zs.length (zs.map (Value.int .i64)) := by
  obtain ⟨t, rfl, ha, _⟩ := h.get i _ hi
  exact ha
theorem EnvP.rowPush {v : Value} {zs : List Int} (h : EnvP w0 w Ls) (b : Below w.heap.size w w') (o : w'.ownsRow 0 3 1 v zs.length (zs.map (Value.int .i64))) (f : ∀ k, v.ownBlock = some k → w.heap.size ≤ k) : EnvP w0 w' (rowI v zs :: Ls) :=
  (h.push (rowTh v zs.length (zs.map (Value.int .i64))) (rowI v zs) rfl b o f).front
end
section
variable {w0 w : World} {Ls : List (Th → Prop)} {p : Nat} {st : St}
theorem rWrite_env (h : EnvP w0 w Ls) (i : Nat) (hi : Ls[i]? = some (rk p st)) (n : Int) (t : ByteArray) (hp : st.pend.length < 9000000000000) {st' : St} {r : Int} (e : st.write n t = (st', r)) :
    Calls Try.prog 38 #[pt p, .int .i64 n, .string t] w fun e w' => e = .returned (.int .i64 r) ∧ EnvP w0 w' (Ls.set i (rk p st')) := by
  obtain ⟨R, rfl, d, _, hn⟩ := h.ref i hi
  refine (rWrite_any R st n t w d hp).mono ?_
  rintro e w' ⟨rfl, R', d', s⟩
  rw [e] at d' ⊢
  exact ⟨rfl, hn _ _ _ d' s⟩
theorem rFlush_env (h : EnvP w0 w Ls) (i : Nat) (hi : Ls[i]? = some (rk p st)) (hp : st.pend.length ≤ 9000000000000) {st' : St} {r : Int} (e : st.flush = (st', r)) :
    Calls Try.prog 39 #[pt p] w fun e w' => e = .returned (.int .i64 r) ∧ EnvP w0 w' (Ls.set i (rk p st')) := by
  obtain ⟨R, rfl, d, _, hn⟩ := h.ref i hi
  refine (rFlush_any R st w d hp).mono ?_
  rintro e w' ⟨rfl, R', d', s⟩
  rw [e] at d' ⊢
  exact ⟨rfl, hn _ _ _ d' s⟩
theorem rFall_env (h : EnvP w0 w Ls) (i : Nat) (hi : Ls[i]? = some (rk p st)) (n : Int) (hn : n ≤ 9223372036854775807) :
    Calls Try.prog 40 #[pt p, .int .i64 n] w fun e w' => e = .returned (.tuple #[]) ∧ EnvP w0 w' (Ls.set i (rk p (st.fallTo n))) := by
  obtain ⟨R, rfl, d, _, hn'⟩ := h.ref i hi
  refine (rFall_any R st n w hn d).mono ?_
  rintro e w' ⟨rfl, d', s⟩
  exact ⟨rfl, hn' _ _ _ d' s⟩
theorem rCrash_env (h : EnvP w0 w Ls) (i : Nat) (hi : Ls[i]? = some (rk p st)) (a : Option Addr) (cap : Nat) (zs : List Int) (hp : st.pend.length ≤ 9000000000000) (hl : zs.length ≤ 20000000000000) (hz : IIn w a zs) (hf : ∀ b off, a = some ⟨b, off, none⟩ → zs ≠ [] → b < w0.heap.size) :
    Calls Try.prog 41 #[pt p, .slice a zs.length cap] w fun e w' => e = .returned (.tuple #[]) ∧ EnvP w0 w' (Ls.set i (rk p (st.crash zs))) := by
  obtain ⟨R, rfl, d, ho, hn⟩ := h.ref i hi
  refine (rCrash_any R st a cap zs w d hp hl hz (fun b off e ne k => by have := hf b off e ne; have := ho b k; omega)).mono ?_
  rintro e w' ⟨rfl, R', d', s⟩
  exact ⟨rfl, hn _ _ _ d' s⟩
theorem rOn_env (h : EnvP w0 w Ls) (i : Nat) (hi : Ls[i]? = some (rk p st)) (hp : st.pend.length ≤ 9000000000000) :
    Calls Try.prog 42 #[pt p] w fun e w' => e = .returned (.tuple #[]) ∧ EnvP w0 w' (Ls.set i (rk p st.on)) := by
  obtain ⟨R, rfl, d, _, hn⟩ := h.ref i hi
  refine (rOn_any R st w d hp).mono ?_
  rintro e w' ⟨rfl, R', d', s⟩
  exact ⟨rfl, hn _ _ _ d' s⟩
theorem rRead_env (h : EnvP w0 w Ls) (i : Nat) (hi : Ls[i]? = some (rk p st)) (n : Int) (hp : st.pend.length ≤ 9000000000000) {t : ByteArray} {r : Int} (e : st.read n = (t, r)) :
    Calls Try.prog 36 #[pt p, .int .i64 n] w fun e w' => e = .returned (.tuple #[.string t, .int .i64 r]) ∧ w' = w := by
  obtain ⟨R, rfl, d, _, hn⟩ := h.ref i hi
  refine (rRead_any R st n w d hp).mono ?_
  rintro e w' ⟨rfl, b⟩
  rw [e]
  exact ⟨rfl, b⟩
theorem rCopy_env (h : EnvP w0 w Ls) (i : Nat) (hi : Ls[i]? = some (rk p st)) (hp : st.pend.length ≤ 9000000000000) : Calls Try.prog 24 #[pt p] w fun e w' => ∃ q, e = .returned (pt q) ∧ EnvP w0 w' (Ls ++ [rk q st]) := by
  obtain ⟨R, rfl, d, _, hn⟩ := h.ref i hi
  refine (rCopy_any R st w d hp).mono ?_
  rintro e w' ⟨R', rfl, d', b, f⟩
  exact ⟨R'.p, rfl, h.push (refTh R' st) _ ⟨R', rfl, rfl⟩ b d' f⟩
theorem rNew_env (h : EnvP w0 w Ls) (n : Nat) (h1 : 1 ≤ n) (h2 : n ≤ 8192) : Calls Try.prog 23 #[.int .i64 (n : Int)] w fun e w' => ∃ q, e = .returned (.tuple #[pt q, .int .i64 0]) ∧ EnvP w0 w' (Ls ++ [rk q (fresh n)]) := by
  refine (rNew_any n w h1 h2).mono ?_
  rintro e w' ⟨R', rfl, d', b, f⟩
  exact ⟨R'.p, rfl, h.push (refTh R' _) _ ⟨R', rfl, rfl⟩ b d' f⟩
theorem same_env {q : Nat} (h : EnvP w0 w Ls) (i j : Nat) (hi : Ls[i]? = some (dk p st)) (hj : Ls[j]? = some (rk q st)) (hp : st.pend.length ≤ 9000000000000) : Calls Try.prog 26 #[pt p, pt q] w fun e w' => e = .returned (.bool true) ∧ EnvP w0 w' Ls := by
  obtain ⟨D, rfl, d, _, _⟩ := h.disk i hi
  obtain ⟨R, rfl, r, _, _⟩ := h.ref j hj
  refine (same_any D R st w d r hp).mono ?_
  rintro e w' ⟨rfl, b⟩
  exact ⟨rfl, h.below b⟩
theorem text_env (h : EnvP w0 w Ls) (kd n : Int) (t : ByteArray) (ev : Bool) (ka : Option Addr) (kl kc : Nat) (ht : t.size ≤ 140737488351232) : Calls Try.prog 37 #[.agg #[.int .i64 kd, .int .i64 n, .string t, .bool ev, .slice ka kl kc]] w fun e w' => e = .returned (.string (otx ev t)) ∧ EnvP w0 w' Ls := by
  refine (text_any kd n t ev ka kl kc w ht).mono ?_
  rintro e w' ⟨rfl, b⟩
  exact ⟨rfl, h.below b⟩
end
end Go.Proofs.Ytmfjhdjphnogiaa
