/- Rows of entries: where they lie, one's own, what an append does to them. -/
import Derived.Test.YthbdaadhcheggaaApp
import Derived.ArgAppend
import Derived.OneCell
namespace Go.Proofs.Ythbdaadhcheggaa
set_option linter.unusedVariables false
set_option linter.unusedSimpArgs false
open Go.RowKit
theorem below_dN {B : Nat} {a w : World} (h : Below B a w) (n : Nat) : Below B a (w.drewN n) := ⟨h.os, h.tape, h.output, h.size, h.block⟩
/-- an entry's cells -/
def pcs (p : En) : List Value := [str p.key, str p.val]
def pcells (l : List En) : List Value := (l.map pcs).flatten
theorem pcells_append (a b : List En) : pcells (a ++ b) = pcells a ++ pcells b := by simp [pcells]
theorem pcells_length (l : List En) : (pcells l).length = l.length * 2 := by
  induction l with
  | nil => rfl
  | cons p l ih => simp [pcells, pcs] at ih ⊢; omega
theorem pcells_get {l : List En} {k : Nat} {p : En} (h : l[k]? = some p) : (pcells l)[k * 2]? = some (str p.key) ∧ (pcells l)[k * 2 + 1]? = some (str p.val) := by
  obtain ⟨hk, he⟩ := List.getElem?_eq_some_iff.1 h
  have e : l = l.take k ++ (p :: l.drop (k + 1)) := by
    rw [← he, List.getElem_cons_drop]
    simp
  have e2 : pcells l = pcells (l.take k) ++ (pcs p ++ pcells (l.drop (k + 1))) := by
    conv => lhs; rw [e]
    rw [pcells_append]
    rfl
  have hl : (pcells (l.take k)).length = k * 2 := by rw [pcells_length, List.length_take]; omega
  rw [e2]
  refine ⟨?_, ?_⟩
  · rw [List.getElem?_append_right (by omega), hl, show k * 2 - k * 2 = 0 by omega]; rfl
  · rw [List.getElem?_append_right (by omega), hl, show k * 2 + 1 - k * 2 = 1 by omega]; rfl
theorem pcells_one (l : List En) : ∀ u ∈ pcells l, u.oneCell' = true := by
  intro u hu
  unfold pcells at hu
  rw [List.mem_flatten] at hu
  obtain ⟨x, hx, hu⟩ := hu
  obtain ⟨p, _, rfl⟩ := List.mem_map.1 hx
  simp [pcs] at hu
  rcases hu with rfl | rfl <;> rfl
theorem infoPf : (Try.prog.info? 51).map (fun i => (i.zero, i.size, i.bytes)) = some (some (.agg #[.string ⟨#[]⟩, .string ⟨#[]⟩]), 2, 32) := by kernel_rfl
theorem infoP : ∃ i, Try.prog.info? 51 = some i ∧ i.zero = some (.agg #[.string ⟨#[]⟩, .string ⟨#[]⟩]) ∧ i.size = 2 ∧ i.bytes = 32 := by
  have := infoPf
  cases hq : Try.prog.info? 51 with
  | none => rw [hq] at this; cases this
  | some i => rw [hq] at this; simp at this; exact ⟨i, rfl, this.1, this.2.1, this.2.2⟩
/-- the list that a slice holds -/
structure PIn (w : World) (a : Option Addr) (l : List En) : Prop where
  get : ∀ k p, l[k]? = some p → ∃ b off, a = some ⟨b, off, none⟩ ∧ b < w.heap.size ∧ w.cell? ⟨b, off + k * 2, none⟩ = some (str p.key) ∧ w.cell? ⟨b, off + k * 2 + 1, none⟩ = some (str p.val)
theorem PIn.later {w w' : World} {a : Option Addr} {l : List En} (h : PIn w a l) (hb : Below w.heap.size w w') : PIn w' a l := by
  refine ⟨fun k p hk => ?_⟩
  obtain ⟨b, off, h1, h2, h3, h4⟩ := h.get k p hk
  exact ⟨b, off, h1, Nat.lt_of_lt_of_le h2 hb.size, by rw [hb.cell (p := ⟨b, _, none⟩) h2]; exact h3, by rw [hb.cell (p := ⟨b, _, none⟩) h2]; exact h4⟩
theorem PIn.take {w : World} {a : Option Addr} {l : List En} (h : PIn w a l) (n : Nat) : PIn w a (l.take n) := ⟨fun k p hk => h.get k p (by
  by_cases hkn : k < n
  · rw [List.getElem?_take_of_lt hkn] at hk; exact hk
  · rw [List.getElem?_eq_none (by rw [List.length_take]; omega)] at hk; cases hk)⟩
theorem PIn.cells {w : World} {b off : Nat} {q : List En} (h : PIn w (some ⟨b, off, none⟩) q) : ∀ j u, (pcells q)[j]? = some u → w.cell? ((⟨b, off, none⟩ : Addr).add j) = some u := by
  intro j u hj
  have hadd : (⟨b, off, none⟩ : Addr).add j = ⟨b, off + j, none⟩ := by unfold Addr.add; split <;> simp_all
  rw [hadd]
  have hlt : j < (pcells q).length := (List.getElem?_eq_some_iff.1 hj).1
  rw [pcells_length] at hlt
  have hk : j / 2 < q.length := by omega
  obtain ⟨p, hp⟩ : ∃ p, q[j / 2]? = some p := ⟨q[j / 2], List.getElem?_eq_getElem hk⟩
  obtain ⟨c0, c1⟩ := pcells_get hp
  obtain ⟨b', off', e, _, k0, k1⟩ := h.get _ _ hp
  injection e with e
  injection e with e1 e2
  subst e1 e2
  rcases (by omega : j = j / 2 * 2 ∨ j = j / 2 * 2 + 1) with h | h
  · have hj' : (pcells q)[j / 2 * 2]? = some u := by rw [← h]; exact hj
    rw [c0] at hj'
    rw [show off + j = off + j / 2 * 2 by omega, k0]; exact hj'
  · have hj' : (pcells q)[j / 2 * 2 + 1]? = some u := by rw [← h]; exact hj
    rw [c1] at hj'
    rw [show off + j = off + j / 2 * 2 + 1 by omega, k1]; exact hj'
/-- a slice as it is told: where, how long, how much room -/
structure Sl (w : World) (a : Option Addr) (cap : Nat) (l : List En) : Prop where
  at' : PIn w a l
  le : l.length ≤ cap
  max : cap ≤ 9223372036854775807
  nil : a = none → cap = 0
theorem Sl.later {w w' : World} {a : Option Addr} {cap : Nat} {l : List En} (h : Sl w a cap l) (hb : Below w.heap.size w w') : Sl w' a cap l := ⟨h.at'.later hb, h.le, h.max, h.nil⟩
theorem Sl.take {w : World} {a : Option Addr} {cap : Nat} {l : List En} (h : Sl w a cap l) (n : Nat) : Sl w a cap (l.take n) := ⟨h.at'.take n, Nat.le_trans (by rw [List.length_take]; omega) h.le, h.max, h.nil⟩
theorem Sl.cut {w : World} {a : Option Addr} {cap : Nat} {l : List En} (h : Sl w a cap l) (n : Nat) (hn : n ≤ l.length) : Sl w a n (l.take n) := ⟨h.at'.take n, by rw [List.length_take]; omega, by have := h.le; have := h.max; omega, fun q => by have := h.nil q; have := h.le; omega⟩
/-- the part behind -/
def dropA (a : Option Addr) (cap n : Nat) : Option Addr := match a with
  | none => none
  | some ad => if cap - n = 0 then some ad else some (ad.add (n * 2))
theorem addr_add (b off j : Nat) : (⟨b, off, none⟩ : Addr).add j = ⟨b, off + j, none⟩ := by unfold Addr.add; split <;> simp_all
theorem Sl.drop {w : World} {a : Option Addr} {cap : Nat} {l : List En} (h : Sl w a cap l) (n : Nat) (hn : n ≤ l.length) : Sl w (dropA a cap n) (cap - n) (l.drop n) := by
  refine ⟨⟨fun k p hk => ?_⟩, by rw [List.length_drop]; have := h.le; omega, by have := h.max; omega, ?_⟩
  · rw [List.getElem?_drop] at hk
    obtain ⟨b, off, rfl, h1, h2, h3⟩ := h.at'.get _ _ hk
    have hlt : n + k < l.length := (List.getElem?_eq_some_iff.1 hk).1
    have hle := h.le
    refine ⟨b, off + n * 2, ?_, h1, ?_, ?_⟩
    · show (if cap - n = 0 then _ else _) = _
      rw [if_neg (by omega), addr_add]
    · rw [show off + n * 2 + k * 2 = off + (n + k) * 2 by omega]; exact h2
    · rw [show off + n * 2 + k * 2 = off + (n + k) * 2 by omega]; exact h3
  · intro q
    cases a with
    | none => have := h.nil rfl; omega
    | some ad =>
      unfold dropA at q
      simp only at q
      split at q <;> cases q
noncomputable def slP (v : Value) (a b c : Option Value) : Sem Value := Instr.slice 39 v a b c
theorem slPe (v : Value) (a b c : Option Value) : Instr.slice 39 v a b c = slP v a b c := rfl
theorem run_slP (a : Option Addr) (len cap n : Nat) (h1 : n ≤ cap) (h3 : cap ≤ 9223372036854775807) (hn : a = none → cap = 0) (w : World) : (slP (.slice a len cap) none (some (.int .i64 (n : Int))) none).run Try.prog w = .ok (.slice a n cap) w := by
  unfold slP
  cases a with
  | none =>
    obtain rfl := hn rfl
    obtain rfl : n = 0 := by omega
    simp [Instr.slice, Try.underlying39, go_sem]
  | some ad =>
    simp [Instr.slice, Try.underlying39, go_sem]
    intro hc
    omega
/-- a row of entries of its own, made behind 'base' -/
structure Ow (base : Nat) (w : World) (v : Value) (l : List En) : Prop where
  own : w.ownsRow base 51 2 v l.length (pcells l)
  le : base ≤ w.heap.size
theorem Ow.nil (w : World) (base : Nat) (h : base ≤ w.heap.size) : Ow base w (.slice none 0 0) [] := ⟨World.ownsRow_nil _ _ _ _, h⟩
theorem Ow.alloc {base : Nat} {w : World} {v : Value} {l : List En} (h : Ow base w v l) (o : Obj) : Ow base (w.alloc o) v l := ⟨h.own.alloc o, by have := h.le; simp; omega⟩
theorem Ow.drew {base : Nat} {w : World} {v : Value} {l : List En} (h : Ow base w v l) : Ow base w.drew v l := ⟨h.own.drew, h.le⟩
theorem Ow.drewN {base : Nat} {w : World} {v : Value} {l : List En} (h : Ow base w v l) (n : Nat) : Ow base (w.drewN n) v l := ⟨h.own, h.le⟩
theorem Ow.later {base : Nat} {w w' : World} {v : Value} {l : List En} (h : Ow base w v l) (hb : Below w.heap.size w w') : Ow base w' v l := ⟨own_later h.own hb, Nat.le_trans h.le hb.size⟩
theorem Ow.slice {base : Nat} {w : World} {v : Value} {l : List En} (h : Ow base w v l) : ∃ a cap, v = .slice a l.length cap ∧ PIn w a l := by
  rcases h.own.2 with ⟨rfl, h0⟩ | ⟨g, cap, cur, rfl, _⟩
  · have : l = [] := List.eq_nil_of_length_eq_zero h0
    subst this
    exact ⟨none, 0, rfl, ⟨fun k p hk => by simp at hk⟩⟩
  · refine ⟨_, _, rfl, ⟨fun k p hk => ?_⟩⟩
    obtain ⟨hkl, _⟩ := List.getElem?_eq_some_iff.1 hk
    obtain ⟨c0, c1⟩ := pcells_get hk
    have hlt := (h.own.lt g rfl).2
    have hp : (pcells l).length = l.length * 2 := pcells_length l
    refine ⟨g, 0, rfl, hlt, ?_, ?_⟩
    · rw [Nat.zero_add, h.own.cellAt _ (by omega), c0]
    · rw [Nat.zero_add, h.own.cellAt _ (by omega), c1]
theorem Ow.sl {base : Nat} {w : World} {v : Value} {l : List En} (h : Ow base w v l) : ∃ a cap, v = .slice a l.length cap ∧ Sl w a cap l := by
  obtain ⟨a, cap, rfl, hP⟩ := h.slice
  refine ⟨a, cap, rfl, hP, ?_, ?_, ?_⟩
  all_goals rcases h.own.2 with ⟨e, h0⟩ | ⟨g, cap', cur, e, _, _, h1, h2, _⟩
  all_goals injection e with e1 e2 e3
  all_goals subst e1 e3
  · omega
  · exact h1
  · omega
  · exact h2
  · intro _; rfl
  · intro h; cases h
theorem Ow.empty {base : Nat} (w : World) (h : base ≤ w.heap.size) : Ow base (w.alloc (.cells #[] 51)) (.slice (some ⟨w.heap.size, 0, none⟩) 0 0) [] :=
  ⟨⟨rfl, Or.inr ⟨w.heap.size, 0, #[], rfl, h, heap_alloc_new _ _, Nat.le_refl _, Nat.zero_le _, rfl, rfl⟩⟩, by simp; omega⟩
theorem Ow.base {b b' : Nat} {w : World} {v : Value} {l : List En} (h : Ow b w v l) (hb : b' ≤ b) : Ow b' w v l := by
  refine ⟨⟨h.own.1, ?_⟩, Nat.le_trans hb h.le⟩
  rcases h.own.2 with e | ⟨g, cap, cur, e1, e2, e3⟩
  · exact Or.inl e
  · exact Or.inr ⟨g, cap, cur, e1, Nat.le_trans hb e2, e3⟩
/-- one entry more behind one's own -/
theorem app_one {ops : Array Oper} {rest : List Oper} {o : Oper} {a : Act} {Q : Exit → Act → World → Prop} {W : World} (hgd : o.guard = none) (s x : Operand) (ho : o.op = .call { callee := .builtin .append, args := #[s, x], argTypes := #[39, 39] })
    {base : Nat} {w : World} {v : Value} {l : List En} {g : Nat} (p : En) (hW : W = w.alloc (.cells #[str p.key, str p.val] 51)) (hO : Ow base w v l) (hg : g = w.heap.size) (hn : l.length ≤ 1000000000000)
    (hs : a.eval s = v) (hx : a.eval x = .slice (some ⟨g, 0, none⟩) 1 1)
    (h : ∀ v' w', Ow base w' v' (l ++ [p]) → Below base w w' → wpList Try.prog ops Q rest (a.put o.dst v') w') :
    wpList Try.prog ops Q (o :: rest) a W := by
  obtain ⟨i0, hi0, hz0, hz1, hz2⟩ := infoP
  subst hW hg
  have hm : maxLen = 9223372036854775807 := rfl
  refine wpList_append_own_wide _ hgd s x 39 ho base 51 i0 _ 2 32 Try.underlying39 hi0 hz0 hz1 hz2 rfl (by omega) v l.length (pcells l) hs (hO.own.alloc _) _ 1 1 (pcs p) hx rfl
    (World.news_of_block (cs := #[str p.key, str p.val]) (t := 51) (fr := (0, 0)) (heap_alloc_new w _)) (by simp [pcs, Value.oneCell']) (by rw [hm]; omega) (by omega) (by have := hO.le; simp; omega) ?_
  intro v' w' hown hgrow _
  refine h v' w' ⟨?_, ?_⟩ ?_
  · rw [pcells_append, List.length_append]
    have : pcells [p] = pcs p := by simp [pcells]
    rw [this]; exact hown
  · have := hgrow.size; have h2 := hO.le; simp at this; omega
  · exact ((Below.refl _ _).alloc hO.le _).trans (grown_below (hO.own.alloc _) (by have := hO.le; simp; omega) hgrow)
/-- a list behind one's own -/
theorem app_slice {ops : Array Oper} {rest : List Oper} {o : Oper} {a : Act} {Q : Exit → Act → World → Prop} {w : World} (hgd : o.guard = none) (s x : Operand) (ho : o.op = .call { callee := .builtin .append, args := #[s, x], argTypes := #[39, 39] })
    {base : Nat} {v : Value} {l : List En} {ad : Option Addr} {k c : Nat} (q : List En) (hO : Ow base w v l) (hS : Sl w ad c q) (hk : q.length = k) (hn : l.length + q.length ≤ 1000000000000)
    (hs : a.eval s = v) (hx : a.eval x = .slice ad k c)
    (h : ∀ v' w', Ow base w' v' (l ++ q) → Below base w w' → wpList Try.prog ops Q rest (a.put o.dst v') w') :
    wpList Try.prog ops Q (o :: rest) a w := by
  obtain ⟨i0, hi0, hz0, hz1, hz2⟩ := infoP
  have hm : maxLen = 9223372036854775807 := rfl
  subst hk
  cases ad with
  | none =>
    have hc := hS.nil rfl
    have h0 : q.length = 0 := by have := hS.le; omega
    have hq : q = [] := List.eq_nil_of_length_eq_zero h0
    subst hq hc
    refine wpList_plain hgd fun K hK' => ?_
    have hrun := run_append_owned_none (P := Try.prog) w base 39 o.type 51 i0 2 Try.underlying39 hi0 _ l.length (pcells l) hO.own
    unfold Oper.wp
    simp [execOp, ho, resolve, invoke, builtin, hs, hx, hrun, Result.andThen]
    exact hK' _ _ (h v w (by simpa using hO) (Below.refl _ _))
  | some ad =>
    have hspot : q.length = 0 ∨ ad.spot = none := by
      rcases Nat.eq_zero_or_pos q.length with h0 | h0
      · exact Or.inl h0
      · obtain ⟨b, off, e, _⟩ := hS.at'.get 0 q[0] (List.getElem?_eq_getElem h0)
        injection e with e
        exact Or.inr (by rw [e])
    have hcells : ∀ j u, (pcells q)[j]? = some u → w.cell? (ad.add j) = some u := by
      rcases hspot with h0 | h0
      · intro j u hj
        have hq : q = [] := List.eq_nil_of_length_eq_zero h0
        subst hq
        simp [pcells] at hj
      · obtain ⟨b, off, sp⟩ := ad
        simp at h0
        subst h0
        exact hS.at'.cells
    refine wpList_append_own_wide _ hgd s x 39 ho base 51 i0 _ 2 32 Try.underlying39 hi0 hz0 hz1 hz2 rfl (by omega) v l.length (pcells l) hs hO.own ad q.length c (pcells q) hx (pcells_length q) hcells (pcells_one q) (by rw [hm]; omega) (by omega) hO.le ?_
    intro v' w' hown hgrow _
    refine h v' w' ⟨?_, ?_⟩ (grown_below hO.own hO.le hgrow)
    · rw [pcells_append, List.length_append]; exact hown
    · have := hgrow.size; have h2 := hO.le; omega
/-- one entry behind a part that is cut from its room -/
theorem app_full {ops : Array Oper} {rest : List Oper} {o : Oper} {a : Act} {Q : Exit → Act → World → Prop} {W : World} (hgd : o.guard = none) (s x : Operand) (ho : o.op = .call { callee := .builtin .append, args := #[s, x], argTypes := #[39, 39] })
    {base : Nat} {w : World} {ad : Option Addr} {l : List En} {n g : Nat} (p : En) (hW : W = w.alloc (.cells #[str p.key, str p.val] 51)) (hS : Sl w ad n l) (hln : l.length = n) (hg : g = w.heap.size) (hb : base ≤ w.heap.size) (hn : l.length ≤ 1000000000000)
    (hs : a.eval s = .slice ad n n) (hx : a.eval x = .slice (some ⟨g, 0, none⟩) 1 1)
    (h : ∀ v' w', Ow base w' v' (l ++ [p]) → Below base w w' → wpList Try.prog ops Q rest (a.put o.dst v') w') :
    wpList Try.prog ops Q (o :: rest) a W := by
  obtain ⟨i0, hi0, hz0, hz1, hz2⟩ := infoP
  subst hW hg hln
  have hm : maxLen = 9223372036854775807 := rfl
  have hS' := hS.later ((Below.refl _ _).alloc (Nat.le_refl _) (.cells #[str p.key, str p.val] 51))
  refine wpList_append_grows _ hgd s x 39 ho 51 i0 _ 2 32 Try.underlying39 hi0 hz0 hz1 hz2 rfl (by omega) ad l.length l.length (pcells l) hs (fun q => ⟨hS.nil q, hS.nil q⟩) (pcells_length l) ?_ ⟨w.heap.size, 0, none⟩ 1 1 (pcs p) hx rfl
    (World.news_of_block (cs := #[str p.key, str p.val]) (t := 51) (fr := (0, 0)) (heap_alloc_new w _)) (by simp [pcs, Value.oneCell']) (by omega) (by rw [hm]; omega) (by omega) ?_
  · intro b hb j u hj
    subst hb
    rcases Nat.eq_zero_or_pos l.length with h0 | h0
    · have hq : l = [] := List.eq_nil_of_length_eq_zero h0
      subst hq
      simp [pcells] at hj
    · obtain ⟨b', off, e, _⟩ := hS'.at'.get 0 l[0] (List.getElem?_eq_getElem h0)
      obtain rfl := Option.some.inj e
      exact hS'.at'.cells j u hj
  · intro v' w' hown hgrow
    have hgs := hgrow.size
    simp at hgs
    refine h v' w' ?_ ?_
    · refine Ow.base (b := (w.alloc (.cells #[str p.key, str p.val] 51)).heap.size) ⟨?_, hgrow.size⟩ (by simp; omega)
      rw [pcells_append, List.length_append]
      have : pcells [p] = pcs p := by simp [pcells]
      rw [this]; exact hown
    · exact ((Below.refl _ _).alloc hb _).trans ((Below.refl _ _).grown hgrow (by simp; omega) (fun k0 hk0 => by cases hk0))
theorem new2 {w w1 : World} {a b : Value} {t : TypeId} (h : Below (w.alloc (.cells #[a, b] t)).heap.size (w.alloc (.cells #[a, b] t)) w1) :
    w1.cell? ⟨w.heap.size, 0, none⟩ = some a ∧ w1.cell? ⟨w.heap.size, 1, none⟩ = some b := by
  have hr : w1.heap[w.heap.size]? = some (.cells #[a, b] t (0, 0)) := by rw [h.block _ (by simp)]; exact heap_alloc_new _ _
  exact ⟨by rw [cell_of_row _ _ _ _ _ _ hr]; rfl, by rw [cell_of_row _ _ _ _ _ _ hr]; rfl⟩
theorem take_succ' {l : List En} {k : Nat} {p : En} (h : l[k]? = some p) : l.take (k + 1) = l.take k ++ [p] := by rw [List.take_add_one, h]; rfl
/-- alike, as a test -/
noncomputable def same (a b : List En) : Bool := by classical exact decide (a = b)
theorem same_true {a b : List En} (h : a = b) : same a b = true := by unfold same; simp [h]
theorem same_false {a b : List En} (h : ¬ a = b) : same a b = false := by unfold same; simp [h]
theorem same_iff {a b : List En} : same a b = true ↔ a = b := by unfold same; simp
end Go.Proofs.Ythbdaadhcheggaa
