/- A disk in memory: its block, the rows of what is seen and safe, the row of what is pending; what a step may change. -/
import Derived.Test.YtghdgddpdamhcaaGreatMath
import Derived.Test.YtghdgddpdamhcaaGreatProg
import Derived.WalkKit
import Derived.WalkLawsBesides
import Derived.WalkSpells
import Derived.BigQuiet
import Derived.Deep.QuietTactic
import Derived.Deep.DrawnRows
import Derived.OwnWalk
import Derived.Deep.AppendLies
import Derived.Deep.DeepAppendWide
import Derived.Laws.OwnMore
import Derived.Laws.IdiomStrings
namespace Go.Proofs.YtghdgddpdamhcaaGreat
set_option linter.unusedVariables false
set_option linter.unusedSimpArgs false
open Go.RowKit
structure Hid (p : Prop) : Prop where
  out : p
/-- Nothing but the blocks of S has turned. -/
structure Fr (S : Nat → Prop) (w w' : World) : Prop where
  os : w'.os = w.os
  tape : w'.tape = w.tape
  output : w'.output = w.output
  size : w.heap.size ≤ w'.heap.size
  block : ∀ k, k < w.heap.size → ¬ S k → w'.heap[k]? = w.heap[k]?
section
variable {S S' : Nat → Prop} {a b c w w' : World}
theorem Fr.refl (S : Nat → Prop) (w : World) : Fr S w w := ⟨rfl, rfl, rfl, Nat.le_refl _, fun _ _ _ => rfl⟩
theorem Fr.trans (h : Fr S a b) (k : Fr S' b c) (hs : ∀ i, i < a.heap.size → S' i → S i) : Fr S a c :=
  ⟨k.os.trans h.os, k.tape.trans h.tape, k.output.trans h.output, Nat.le_trans h.size k.size, fun i hi hn => (k.block i (Nat.lt_of_lt_of_le hi h.size) (fun e => hn (hs i hi e))).trans (h.block i hi hn)⟩
theorem Fr.of_below (h : Below w.heap.size w w') : Fr S w w' := ⟨h.os, h.tape, h.output, h.size, fun k hk _ => h.block k hk⟩
theorem Fr.of_grown {row : Option Nat} (h : w.grownBy w' row) (hr : ∀ k, row = some k → S k) : Fr S w w' := ⟨h.os, h.tape, h.output, h.size, fun k hk hn => h.block k hk (fun e => hn (hr k e.symm))⟩
theorem Fr.mono (h : Fr S w w') (hs : ∀ i, i < w.heap.size → S i → S' i) : Fr S' w w' := ⟨h.os, h.tape, h.output, h.size, fun k hk hn => h.block k hk (fun e => hn (hs k hk e))⟩
theorem Fr.below {B : Nat} (h : Fr S w w') (hB : B ≤ w.heap.size) (hs : ∀ k, S k → B ≤ k) : Below B w w' := ⟨h.os, h.tape, h.output, h.size, fun k hk => h.block k (by omega) (fun e => by have := hs k e; omega)⟩
theorem Fr.then_below (h : Fr S a b) (k : Below b.heap.size b c) : Fr S a c := h.trans (Fr.of_below (S := fun _ => False) k) (fun _ _ e => e.elim)
theorem Fr.drew (h : Fr S a b) : Fr S a b.drew := ⟨h.os, h.tape, h.output, h.size, h.block⟩
theorem Fr.drewN (h : Fr S a b) (n : Nat) : Fr S a (b.drewN n) := ⟨h.os, h.tape, h.output, h.size, h.block⟩
theorem Fr.alloc (h : Fr S a b) (o : Obj) : Fr S a (b.alloc o) := h.then_below ((Below.refl _ _).alloc (Nat.le_refl _) o)
theorem fr_set (w : World) (g j : Nat) (v : Value) (hg : S g) : Fr S w (w.setCell ⟨g, j, none⟩ v) :=
  ⟨rfl, rfl, rfl, by simp [World.setCell], fun k _ hn => Below.heap_setCell _ _ _ _ (fun e => hn (by rw [e]; exact hg))⟩
theorem Fr.setCell (h : Fr S a b) (g j : Nat) (v : Value) (hg : S g ∨ a.heap.size ≤ g) : Fr S a (b.setCell ⟨g, j, none⟩ v) :=
  h.trans (fr_set (S := fun k => k = g) b g j v rfl) (fun i hi e => by subst e; rcases hg with h1 | h1; exact h1; omega)
theorem Fr.cell (h : Fr S w w') {p : Addr} {v : Value} (hc : w.cell? p = some v) (hn : ¬ S p.block) : w'.cell? p = some v := (World.cell?_of_block (w := w) (h.block p.block (World.block_lt_of_cell? w p hc) hn)).trans hc
theorem heap_lt {k : Nat} {o : Obj} (h : w.heap[k]? = some o) : k < w.heap.size := by
  rcases Nat.lt_or_ge k w.heap.size with q | q
  · exact q
  · rw [Array.getElem?_eq_none q] at h; cases h
theorem Fr.heap (h : Fr S w w') {k : Nat} {o : Obj} (hc : w.heap[k]? = some o) (hn : ¬ S k) : w'.heap[k]? = some o := (h.block k (heap_lt hc) hn).trans hc
theorem Fr.grown (h : Fr S w w') (row : Option Nat) (hr : ∀ k, S k → k < w.heap.size → row = some k) : w.grownBy w' row := ⟨h.os, h.tape, h.output, h.size, fun k hk hne => h.block k hk (fun e => hne (hr k e hk).symm)⟩
theorem Fr.own (h : Fr S w w') {base : Nat} {e : TypeId} {size : Nat} {v : Value} {n : Nat} {xs : List Value} (ho : w.ownsRow base e size v n xs) (hn : ∀ k, v.ownBlock = some k → ¬ S k) : w'.ownsRow base e size v n xs := by
  refine ⟨ho.1, ?_⟩
  rcases ho.2 with h1 | ⟨g, cap, cur, h1, h2, h3, h4⟩
  · exact .inl h1
  · exact .inr ⟨g, cap, cur, h1, h2, h.heap h3 (hn g (by rw [h1]; rfl)), h4⟩
end
theorem cell_set (wr : World) (g j : Nat) (cs : Array Value) (t : TypeId) (v : Value) (h : wr.heap[g]? = some (.cells cs t (0, 0))) : (wr.setCell ⟨g, j, none⟩ v).heap[g]? = some (.cells (cs.setIfInBounds j v) t (0, 0)) := heap_setCell_same wr g j cs t v h
structure Dk where
  p : Nat
  g1 : Nat
  c1 : Nat
  g2 : Nat
  c2 : Nat
  v3 : Value
def Dk.foot (D : Dk) (k : Nat) : Prop := k = D.p ∨ k = D.g1 ∨ k = D.g2 ∨ D.v3.ownBlock = some k
abbrev rw_ (g n c : Nat) : Value := .slice (some ⟨g, 0, none⟩) n c
def strv (l : List ByteArray) : List Value := l.map Value.string
def wcs : List (Nat × ByteArray) → List Value
  | [] => []
  | p :: r => .int .i64 (p.1 : Int) :: .string p.2 :: wcs r
theorem wcs_length : ∀ l, (wcs l).length = l.length * 2
  | [] => rfl
  | _ :: r => by simp [wcs, wcs_length r]; omega
theorem wcs_append : ∀ a b, wcs (a ++ b) = wcs a ++ wcs b
  | [], _ => rfl
  | _ :: r, b => by simp [wcs, wcs_append r b]
theorem wcs_at : ∀ (l : List (Nat × ByteArray)) (k : Nat) (p : Nat × ByteArray), l[k]? = some p → (wcs l)[k * 2]? = some (.int .i64 (p.1 : Int)) ∧ (wcs l)[k * 2 + 1]? = some (.string p.2)
  | [], _, _, h => by simp at h
  | q :: r, 0, p, h => by simp at h; subst h; simp [wcs]
  | q :: r, k + 1, p, h => by
    have := wcs_at r k p (by simpa using h)
    have e : (k + 1) * 2 = k * 2 + 1 + 1 := by omega
    simp only [wcs, e, List.getElem?_cons_succ]
    exact this
theorem wcs_one : ∀ l, ∀ u ∈ wcs l, u.oneCell' = true
  | [], u, h => by simp [wcs] at h
  | p :: r, u, h => by
    simp only [wcs, List.mem_cons] at h
    rcases h with rfl | rfl | h
    · rfl
    · rfl
    · exact wcs_one r u h
def dcells (D : Dk) (n : Nat) (off opn : Bool) (fall : Nat) : Array Value := #[rw_ D.g1 n D.c1, rw_ D.g2 n D.c2, D.v3, .bool off, .bool opn, .int .i64 (fall : Int)]
/-- A disk's memory, whatever its rows hold. -/
structure Raw (w : World) (D : Dk) (n : Nat) (seen safe : List ByteArray) (pend : List (Nat × ByteArray)) (off opn : Bool) (fall : Nat) : Prop where
  blk : w.heap[D.p]? = some (.cells (dcells D n off opn fall) 90 (0, 0))
  seen : w.ownsRow 0 9 1 (rw_ D.g1 n D.c1) n (strv seen)
  safe : w.ownsRow 0 9 1 (rw_ D.g2 n D.c2) n (strv safe)
  pend : w.ownsRow 0 95 2 D.v3 pend.length (wcs pend)
  a1 : D.p ≠ D.g1
  a2 : D.p ≠ D.g2
  a3 : D.g1 ≠ D.g2
  a4 : D.v3.ownBlock ≠ some D.p
  a5 : D.v3.ownBlock ≠ some D.g1
  a6 : D.v3.ownBlock ≠ some D.g2
structure DiskAt (w : World) (D : Dk) (st : St) : Prop where
  wf : st.WF
  raw : Raw w D st.safe.length st.seen st.safe st.pend st.off st.opn st.fall
/-- What a step leaves. -/
structure Stp (w : World) (D : Dk) (w' : World) (D' : Dk) : Prop where
  p : D'.p = D.p
  fr : Fr D.foot w w'
  nw : ∀ k, D'.foot k → D.foot k ∨ w.heap.size ≤ k
theorem Stp.refl (w : World) (D : Dk) : Stp w D w D := ⟨rfl, Fr.refl _ _, fun _ h => .inl h⟩
theorem Stp.trans {a b c : World} {D D' D'' : Dk} (h : Stp a D b D') (k : Stp b D' c D'') : Stp a D c D'' :=
  ⟨k.p.trans h.p, h.fr.trans k.fr (fun i hi e => (h.nw i e).resolve_right (by omega)), fun i hi => by
    rcases k.nw i hi with h1 | h1
    · exact h.nw i h1
    · exact .inr (Nat.le_trans h.fr.size h1)⟩
section
variable {w w' : World} {D : Dk} {n : Nat} {seen safe : List ByteArray} {pend : List (Nat × ByteArray)} {off opn : Bool} {fall : Nat}
theorem Raw.cell (h : Raw w D n seen safe pend off opn fall) (j : Nat) : w.cell? ⟨D.p, j, none⟩ = (dcells D n off opn fall)[j]? := cell_of_row w D.p j _ _ (0, 0) h.blk
theorem Raw.frozen (h : Raw w D n seen safe pend off opn fall) (j : Nat) : w.frozen? ⟨D.p, j, none⟩ = false := frozen_of_row w D.p j _ _ h.blk
theorem Raw.lens (h : Raw w D n seen safe pend off opn fall) : seen.length = n ∧ safe.length = n := by
  have h1 := h.seen.1; have h2 := h.safe.1
  simp [strv] at h1 h2
  exact ⟨h1, h2⟩
theorem Raw.seenAt (h : Raw w D n seen safe pend off opn fall) (j : Nat) (hj : j < n) : w.cell? ⟨D.g1, j, none⟩ = some (.string (seen.getD j ByteArray.empty)) := by
  rw [h.seen.cellAt j (by omega)]
  have := h.lens.1
  simp [strv, List.getD_eq_getElem?_getD, List.getElem?_eq_getElem (show j < seen.length by omega)]
theorem Raw.safeAt (h : Raw w D n seen safe pend off opn fall) (j : Nat) (hj : j < n) : w.cell? ⟨D.g2, j, none⟩ = some (.string (safe.getD j ByteArray.empty)) := by
  rw [h.safe.cellAt j (by omega)]
  have := h.lens.2
  simp [strv, List.getD_eq_getElem?_getD, List.getElem?_eq_getElem (show j < safe.length by omega)]
theorem Raw.lt (h : Raw w D n seen safe pend off opn fall) : ∀ k, D.foot k → k < w.heap.size := by
  rintro k (rfl | rfl | rfl | hk)
  · exact heap_lt h.blk
  · exact (h.seen.lt _ rfl).2
  · exact (h.safe.lt _ rfl).2
  · exact (h.pend.lt _ hk).2
theorem Raw.kept {S : Nat → Prop} (h : Raw w D n seen safe pend off opn fall) (fr : Fr S w w') (hs : ∀ k, D.foot k → ¬ S k) : Raw w' D n seen safe pend off opn fall :=
  ⟨fr.heap h.blk (hs _ (.inl rfl)), fr.own h.seen (fun k hk => hs k (.inr (.inl (by cases hk; rfl)))), fr.own h.safe (fun k hk => hs k (.inr (.inr (.inl (by cases hk; rfl))))), fr.own h.pend (fun k hk => hs k (.inr (.inr (.inr hk)))), h.a1, h.a2, h.a3, h.a4, h.a5, h.a6⟩
theorem Raw.below (h : Raw w D n seen safe pend off opn fall) (b : Below w.heap.size w w') : Raw w' D n seen safe pend off opn fall := h.kept (Fr.of_below (S := fun _ => False) b) (fun _ _ e => e)
theorem Raw.alloc (h : Raw w D n seen safe pend off opn fall) (o : Obj) : Raw (w.alloc o) D n seen safe pend off opn fall := h.below ((Below.refl _ _).alloc (Nat.le_refl _) o)
theorem Raw.drew (h : Raw w D n seen safe pend off opn fall) : Raw w.drew D n seen safe pend off opn fall := ⟨h.blk, h.seen, h.safe, h.pend, h.a1, h.a2, h.a3, h.a4, h.a5, h.a6⟩
theorem Raw.other (h : Raw w D n seen safe pend off opn fall) (g j : Nat) (v : Value) (hg : ¬ D.foot g) : Raw (w.setCell ⟨g, j, none⟩ v) D n seen safe pend off opn fall := h.kept (fr_set (S := fun k => k = g) w g j v rfl) (fun k hk e => hg (e ▸ hk))
/-- a field of the block laid anew -/
theorem Raw.field {D' : Dk} {off' opn' : Bool} {fall' : Nat} (h : Raw w D n seen safe pend off opn fall) (j : Nat) (v : Value) (e : (dcells D n off opn fall).setIfInBounds j v = dcells D' n off' opn' fall') (hD : D' = D) : Raw (w.setCell ⟨D.p, j, none⟩ v) D n seen safe pend off' opn' fall' := by
  subst hD
  have fr : Fr (fun k => k = D'.p) w (w.setCell ⟨D'.p, j, none⟩ v) := fr_set w _ j v rfl
  refine ⟨by rw [cell_set _ _ _ _ _ _ h.blk, e], fr.own h.seen (fun k hk e => ?_), fr.own h.safe (fun k hk e => ?_), fr.own h.pend (fun k hk e => ?_), h.a1, h.a2, h.a3, h.a4, h.a5, h.a6⟩
  · cases hk; exact h.a1 e.symm
  · cases hk; exact h.a2 e.symm
  · rw [e] at hk; exact h.a4 hk
theorem Raw.setOff (h : Raw w D n seen safe pend off opn fall) (b : Bool) : Raw (w.setCell ⟨D.p, 3, none⟩ (.bool b)) D n seen safe pend b opn fall := h.field (D' := D) 3 _ rfl rfl
theorem Raw.setOpn (h : Raw w D n seen safe pend off opn fall) (b : Bool) : Raw (w.setCell ⟨D.p, 4, none⟩ (.bool b)) D n seen safe pend off b fall := h.field (D' := D) 4 _ rfl rfl
theorem Raw.setFall (h : Raw w D n seen safe pend off opn fall) (m : Nat) {i : Int} (hi : i = (m : Int)) : Raw (w.setCell ⟨D.p, 5, none⟩ (.int .i64 i)) D n seen safe pend off opn m := by subst hi; exact h.field (D' := D) 5 _ rfl rfl
theorem Raw.setPend {pend' : List (Nat × ByteArray)} {v' : Value} (h : Raw w D n seen safe pend off opn fall) (ho : w.ownsRow 0 95 2 v' pend'.length (wcs pend')) (b1 : v'.ownBlock ≠ some D.p) (b2 : v'.ownBlock ≠ some D.g1) (b3 : v'.ownBlock ≠ some D.g2) :
    Raw (w.setCell ⟨D.p, 2, none⟩ v') { D with v3 := v' } n seen safe pend' off opn fall := by
  have fr : Fr (fun k => k = D.p) w (w.setCell ⟨D.p, 2, none⟩ v') := fr_set w _ 2 v' rfl
  refine ⟨by rw [cell_set _ _ _ _ _ _ h.blk]; rfl, fr.own h.seen (fun k hk e => ?_), fr.own h.safe (fun k hk e => ?_), fr.own ho (fun k hk e => ?_), h.a1, h.a2, h.a3, b1, b2, b3⟩
  · cases hk; exact h.a1 e.symm
  · cases hk; exact h.a2 e.symm
  · rw [e] at hk; exact b1 hk
theorem Raw.noPend (h : Raw w D n seen safe pend off opn fall) : Raw (w.setCell ⟨D.p, 2, none⟩ (.slice none 0 0)) { D with v3 := .slice none 0 0 } n seen safe [] off opn fall :=
  h.setPend (pend' := []) (World.ownsRow_nil _ _ _ _) (by simp [Value.ownBlock]) (by simp [Value.ownBlock]) (by simp [Value.ownBlock])
theorem strv_set (l : List ByteArray) (j : Nat) (t : ByteArray) : (strv l).set j (.string t) = strv (l.set j t) := by simp [strv, List.map_set]
theorem Raw.setSeen (h : Raw w D n seen safe pend off opn fall) (j : Nat) (t : ByteArray) : Raw (w.setCell ⟨D.g1, j, none⟩ (.string t)) D n (seen.set j t) safe pend off opn fall := by
  obtain ⟨o1, g1⟩ := h.seen.stored j (.string t)
  rw [strv_set] at o1
  have fr : Fr (fun k => k = D.g1) w (w.setCell ⟨D.g1, j, none⟩ (.string t)) := fr_set w _ j _ rfl
  refine ⟨fr.heap h.blk h.a1, o1, fr.own h.safe (fun k hk e => ?_), fr.own h.pend (fun k hk e => ?_), h.a1, h.a2, h.a3, h.a4, h.a5, h.a6⟩
  · cases hk; exact h.a3 e.symm
  · rw [e] at hk; exact h.a5 hk
theorem Raw.setSafe (h : Raw w D n seen safe pend off opn fall) (j : Nat) (t : ByteArray) : Raw (w.setCell ⟨D.g2, j, none⟩ (.string t)) D n seen (safe.set j t) pend off opn fall := by
  obtain ⟨o1, g1⟩ := h.safe.stored j (.string t)
  rw [strv_set] at o1
  have fr : Fr (fun k => k = D.g2) w (w.setCell ⟨D.g2, j, none⟩ (.string t)) := fr_set w _ j _ rfl
  refine ⟨fr.heap h.blk h.a2, fr.own h.seen (fun k hk e => ?_), o1, fr.own h.pend (fun k hk e => ?_), h.a1, h.a2, h.a3, h.a4, h.a5, h.a6⟩
  · cases hk; exact h.a3 e
  · rw [e] at hk; exact h.a6 hk
end
section
variable {w w' : World} {D : Dk} {st : St}
theorem DiskAt.kept {S : Nat → Prop} (h : DiskAt w D st) (fr : Fr S w w') (hs : ∀ k, D.foot k → ¬ S k) : DiskAt w' D st := ⟨h.wf, h.raw.kept fr hs⟩
theorem DiskAt.below (h : DiskAt w D st) (b : Below w.heap.size w w') : DiskAt w' D st := ⟨h.wf, h.raw.below b⟩
theorem DiskAt.lt (h : DiskAt w D st) : ∀ k, D.foot k → k < w.heap.size := h.raw.lt
end
end Go.Proofs.YtghdgddpdamhcaaGreat
