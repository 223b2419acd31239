/- Rows of texts and of writes among the things; all blocks; two lists of texts. -/
import Derived.Test.YtghdgddpdamhcaaGreatFul
namespace Go.Proofs.YtghdgddpdamhcaaGreat
set_option linter.unusedVariables false
set_option linter.unusedSimpArgs false
open Go.RowKit
section
variable {w0 w w' : World} {Ls rest : List (Th → Prop)} {x y z : Th → Prop}
theorem EnvP.third (h : EnvP w0 w (x :: y :: (rest ++ [z]))) : EnvP w0 w (x :: y :: z :: rest) := by
  refine h.remap (fun i => match i with | 0 => 0 | 1 => 1 | 2 => rest.length + 2 | i + 3 => i + 2) ?_ ?_
  · intro i s hi
    match i with
    | 0 => simpa using hi
    | 1 => simpa using hi
    | 2 => simp at hi ⊢; exact hi
    | i + 3 =>
      have hil : i < rest.length := by
        have := (List.getElem?_eq_some_iff.1 hi).1
        simpa using this
      simp only [List.getElem?_cons_succ] at hi ⊢
      rw [List.getElem?_append_left hil]
      exact hi
  · intro i j hi hj e
    match i, j with
    | 0, 0 => rfl
    | 1, 1 => rfl
    | 2, 2 => rfl
    | 0, 1 => simp at e
    | 0, 2 => simp at e
    | 1, 0 => simp at e
    | 1, 2 => simp at e
    | 2, 0 => simp at e
    | 2, 1 => simp at e
    | 0, j + 3 => simp at e
    | 1, j + 3 => simp at e
    | i + 3, 0 => simp at e
    | i + 3, 1 => simp at e
    | 2, j + 3 => simp at e hj; omega
    | i + 3, 2 => simp at e hi; omega
    | i + 3, j + 3 => simp at e ⊢; omega
theorem EnvP.del3 (h : EnvP w0 w (x :: y :: z :: rest)) : EnvP w0 w (x :: y :: rest) := by
  refine h.remap (fun i => match i with | 0 => 0 | 1 => 1 | i + 2 => i + 3) ?_ ?_
  · intro i s hi
    match i with
    | 0 => simpa using hi
    | 1 => simpa using hi
    | i + 2 => simpa using hi
  · intro i j hi hj e
    match i, j with
    | 0, 0 => rfl
    | 1, 1 => rfl
    | 0, 1 => simp at e
    | 1, 0 => simp at e
    | 0, j + 2 => simp at e
    | 1, j + 2 => simp at e
    | i + 2, 0 => simp at e
    | i + 2, 1 => simp at e
    | i + 2, j + 2 => simp at e ⊢; omega
/-- a row of texts of the call's own -/
def rowSTh (v : Value) (n : Nat) (xs : List Value) : Th := ⟨fun k => v.ownBlock = some k, fun w => w.ownsRow 0 9 1 v n xs, fun w h k hk => (h.lt k hk).2, fun S w w' h fr hs => fr.own h (fun k hk => hs k hk)⟩
def rowS (v : Value) (l : List ByteArray) : Th → Prop := fun t => t = rowSTh v l.length (strv l)
theorem EnvP.rowSAt {v : Value} {l : List ByteArray} (h : EnvP w0 w Ls) (i : Nat) (hi : Ls[i]? = some (rowS v l)) : w.ownsRow 0 9 1 v l.length (strv l) := by
  obtain ⟨t, rfl, ha, _⟩ := h.get i _ hi
  exact ha
theorem EnvP.rowWAt {v : Value} {l : Il} (h : EnvP w0 w Ls) (i : Nat) (hi : Ls[i]? = some (rowW v l)) : w.ownsRow 0 95 2 v l.length (wci l) := by
  obtain ⟨t, rfl, ha, _⟩ := h.get i _ hi
  exact ha
theorem EnvP.pushS {v : Value} {l : List ByteArray} (h : EnvP w0 w Ls) (b : Below w.heap.size w w') (o : w'.ownsRow 0 9 1 v l.length (strv l)) (f : ∀ k, v.ownBlock = some k → w.heap.size ≤ k) : EnvP w0 w' (Ls ++ [rowS v l]) :=
  h.push (rowSTh v l.length (strv l)) (rowS v l) rfl b o f
theorem EnvP.nilS (h : EnvP w0 w Ls) : EnvP w0 w (Ls ++ [rowS (.slice none 0 0) []]) := h.pushS (Below.refl _ _) (World.ownsRow_nil _ _ _ _) (fun k hk => by cases hk)
theorem EnvP.nilW (h : EnvP w0 w Ls) : EnvP w0 w (Ls ++ [rowW (.slice none 0 0) []]) := h.pushW (l := []) (Below.refl _ _) (World.ownsRow_nil _ _ _ _) (fun k hk => by cases hk)
theorem EnvP.appS {v v' : Value} {l l' : List ByteArray} (h : EnvP w0 w Ls) (i : Nat) (hi : Ls[i]? = some (rowS v l)) (o : w'.ownsRow 0 9 1 v' l'.length (strv l')) (g : w.grownBy w' v.ownBlock) (nw : ∀ k, v'.ownBlock = some k → v.ownBlock = some k ∨ w.heap.size ≤ k) : EnvP w0 w' (Ls.set i (rowS v' l')) := by
  obtain ⟨t, rfl, ha, _, hn⟩ := h.get i _ hi
  exact hn w' (rowSTh v' l'.length (strv l')) (rowS v' l') rfl (Fr.of_grown g (fun k hk => hk)) o nw
theorem EnvP.appW {v v' : Value} {l l' : Il} (h : EnvP w0 w Ls) (i : Nat) (hi : Ls[i]? = some (rowW v l)) (o : w'.ownsRow 0 95 2 v' l'.length (wci l')) (g : w.grownBy w' v.ownBlock) (nw : ∀ k, v'.ownBlock = some k → v.ownBlock = some k ∨ w.heap.size ≤ k) : EnvP w0 w' (Ls.set i (rowW v' l')) := by
  obtain ⟨t, rfl, ha, _, hn⟩ := h.get i _ hi
  exact hn w' (rowWTh v' l'.length (wci l')) (rowW v' l') rfl (Fr.of_grown g (fun k hk => hk)) o nw
end
theorem strv_append (a b : List ByteArray) : strv (a ++ b) = strv a ++ strv b := List.map_append ..
theorem strv_length (a : List ByteArray) : (strv a).length = a.length := List.length_map ..
/-- a text more in a row of texts -/
theorem app_text1 {ops : Array Oper} {rest : List Oper} {o : Oper} {a : Act} {Q : Exit → Act → World → Prop} {w w0 : World} {v : Value} {l : List ByteArray} {g m : Nat} (hlm : l.length = m) {t : ByteArray}
    (hw : w0 = w.alloc (.cells #[.string t] 9)) (hg : g = w.heap.size) (hown : w.ownsRow 0 9 1 v l.length (strv l)) (hn : l.length < 9000000000000)
    (hgd : o.guard = none) (s x : Operand) (ho : o.op = .call { callee := .builtin .append, args := #[s, x], argTypes := #[88, 88] })
    (hs : a.eval s = v) (hx : a.eval x = .slice (some ⟨g, 0, none⟩) 1 1)
    (h : ∀ y cap w', w'.ownsRow 0 9 1 (rw_ y (m + 1) cap) (m + 1) (strv (l ++ [t])) → w.grownBy w' v.ownBlock → (v.ownBlock = some y ∨ w.heap.size ≤ y) → wpList Tryz.prog ops Q rest (a.put o.dst (rw_ y (m + 1) cap)) w') : wpList Tryz.prog ops Q (o :: rest) a w0 := by
  subst hw hg hlm
  obtain ⟨i0, hi0, hz0, hz1, hz2⟩ := info_parts infoSf
  have hm : maxLen = 9223372036854775807 := rfl
  refine wp_append_at Tryz.underlying88 hi0 hz0 hz1 hz2 rfl (by omega) 0 (hown.alloc _) (news := [.string t]) rfl
    (World.news_of_block (cs := #[.string t]) (t := 9) (fr := (0, 0)) (heap_alloc_new w _)) (by simp [Value.oneCell']) (by rw [hm]; omega) (by omega) (Nat.zero_le _) hgd s x ho hs hx ?_
  intro v' w' q1 q2 _ q4
  have q1' : w'.ownsRow 0 9 1 v' (l.length + 1) (strv (l ++ [t])) := by rw [strv_append]; exact q1
  rcases q1'.2 with ⟨_, h0⟩ | ⟨y, cap, cur, rfl, _⟩
  · simp at h0
  · exact h y cap w' q1' ((World.grownBy_alloc _ _ _).trans q2) ((q4 y rfl).imp id (fun e => by simp at e; omega))
/-- a write more in a row of writes, whatever its number -/
theorem app_wi {ops : Array Oper} {rest : List Oper} {o : Oper} {a : Act} {Q : Exit → Act → World → Prop} {w w0 : World} {v : Value} {l : Il} {g m : Nat} (hlm : l.length = m) {i : Int} {t : ByteArray}
    (hw : w0 = w.alloc (.cells #[.int .i64 i, .string t] 95)) (hg : g = w.heap.size) (hown : w.ownsRow 0 95 2 v l.length (wci l)) (hn : l.length < 9000000000000)
    (hgd : o.guard = none) (s x : Operand) (ho : o.op = .call { callee := .builtin .append, args := #[s, x], argTypes := #[85, 85] })
    (hs : a.eval s = v) (hx : a.eval x = .slice (some ⟨g, 0, none⟩) 1 1)
    (h : ∀ y cap w', w'.ownsRow 0 95 2 (rw_ y (m + 1) cap) (m + 1) (wci (l ++ [(i, t)])) → w.grownBy w' v.ownBlock → (v.ownBlock = some y ∨ w.heap.size ≤ y) → wpList Tryz.prog ops Q rest (a.put o.dst (rw_ y (m + 1) cap)) w') : wpList Tryz.prog ops Q (o :: rest) a w0 := by
  subst hw hg hlm
  obtain ⟨i0, hi0, hz0, hz1, hz2⟩ := info_parts infoWf
  have hm : maxLen = 9223372036854775807 := rfl
  refine wp_append_at Tryz.underlying85 hi0 hz0 hz1 hz2 rfl (by omega) 0 (hown.alloc _) (news := [.int .i64 i, .string t]) rfl
    (World.news_of_block (cs := #[.int .i64 i, .string t]) (t := 95) (fr := (0, 0)) (heap_alloc_new w _)) (by simp [Value.oneCell']) (by rw [hm]; omega) (by omega) (Nat.zero_le _) hgd s x ho hs hx ?_
  intro v' w' q1 q2 _ q4
  have q1' : w'.ownsRow 0 95 2 v' (l.length + 1) (wci (l ++ [(i, t)])) := by rw [wci_append]; exact q1
  rcases q1'.2 with ⟨_, h0⟩ | ⟨y, cap, cur, rfl, _⟩
  · simp at h0
  · exact h y cap w' q1' ((World.grownBy_alloc _ _ _).trans q2) ((q4 y rfl).imp id (fun e => by simp at e; omega))
theorem OKst.fallTo {st : St} {n s : Nat} {B : List ByteArray} (h : OKst NN st n s B) (z : Int) (hz : z ≤ 9223372036854775807) : OKst NN (st.fallTo z) n s B := ⟨h.wf.fallTo z hz, h.pend, h.off, h.opn, h.len, h.head, h.blk⟩
theorem OKst.blen {st : St} {n s : Nat} {B : List ByteArray} (h : OKst NN st n s B) : B.length = n - s := by rw [← h.blk, List.length_drop, h.len]
theorem OKst.bsz {st : St} {n s : Nat} {B : List ByteArray} (h : OKst NN st n s B) : Sz B := fun t ht => h.wf.sz t (by rw [← h.blk] at ht; exact List.mem_of_mem_drop ht)
theorem rec_fresh (n s : Nat) (h : 1 ≤ n) : RecL NN (fresh n).safe s (List.replicate (n - s) (fl 0)) := .inl ⟨.inl (by show (List.replicate n (fl 0))[0]? = _; rw [List.getElem?_replicate, if_pos (by omega)]), by simp [fresh]⟩
variable {w0 w : World} {rest : List (Th → Prop)} {q p s : Nat} {d : Bool} {st : St}
theorem take_snoc' (B : List ByteArray) (k : Nat) (h : k < B.length) : B.take (k + 1) = B.take k ++ [B.getD k ByteArray.empty] := by
  rw [List.take_succ_eq_append_getElem h, List.getD_eq_getElem?_getD, List.getElem?_eq_getElem h]; rfl
/-- texts that lie at a -/
def SIn (w : World) (a : Option Addr) (l : List ByteArray) : Prop := ∀ (k : Nat) t, l[k]? = some t → ∃ b off, a = some ⟨b, off, none⟩ ∧ w.cell? ⟨b, off + k, none⟩ = some (.string t)
theorem own_sin {w : World} {v : Value} {l : List ByteArray} (h : w.ownsRow 0 9 1 v l.length (strv l)) : ∃ a c, v = .slice a l.length c ∧ SIn w a l := by
  rcases h.2 with ⟨rfl, h0⟩ | ⟨g, cap, cur, rfl, _⟩
  · have : l = [] := List.eq_nil_of_length_eq_zero h0
    subst this
    exact ⟨none, 0, rfl, fun k t ht => by simp at ht⟩
  · refine ⟨some ⟨g, 0, none⟩, cap, rfl, fun k t ht => ⟨g, 0, rfl, ?_⟩⟩
    have hk := (List.getElem?_eq_some_iff.1 ht).1
    rw [Nat.zero_add, h.cellAt k (by omega)]
    simp [strv, ht]
end Go.Proofs.YtghdgddpdamhcaaGreat
