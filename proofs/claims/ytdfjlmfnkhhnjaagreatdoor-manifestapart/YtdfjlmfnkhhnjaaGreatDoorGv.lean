import Derived.Test.YtdfjlmfnkhhnjaaGreatDoorGe
import Derived.Test.YtdfjlmfnkhhnjaaGreatDoorGh
import Derived.Deep.RegionHeld3
/- Versions, stacks: no model here. -/
namespace Go.Proofs.YtdfjlmfnkhhnjaaGreatDoor.Stk
set_option maxRecDepth 100000
set_option linter.unusedVariables false
set_option linter.unusedSimpArgs false
def vs0 : Vs := ⟨[], 0, false, [], []⟩
end Go.Proofs.YtdfjlmfnkhhnjaaGreatDoor.Stk

/- Rows of versions: where they lie, one's own, what an append does to them. -/
namespace Go.Proofs.YtdfjlmfnkhhnjaaGreatDoor.Stk
set_option maxRecDepth 100000
set_option linter.unusedVariables false
set_option linter.unusedSimpArgs false
open Go.RowKit
/-- a version's value -/
abbrev vv (key : List UInt8) (seq : Int) (mk : Bool) (data : List UInt8) (a : Option Addr) (n cap : Nat) : Value := .agg #[str key, .int .i64 seq, .bool mk, str data, .slice a n cap]
/-- a version that lies in memory: its pairs' row, and what stands behind them -/
structure Rv where
  v : Vs
  z : List En
  a : Option Addr
  c : Nat
def Rv.mv (r : Rv) : Value := .slice r.a (r.v.l.length + r.z.length) r.c
def rcs (r : Rv) : List Value := [str r.v.key, .int .i64 r.v.seq, .bool r.v.mkr, str r.v.data, .slice r.a r.v.l.length r.c]
def rcells (l : List Rv) : List Value := (l.map rcs).flatten
theorem rcells_append (a b : List Rv) : rcells (a ++ b) = rcells a ++ rcells b := by simp [rcells]
theorem rcells_length (l : List Rv) : (rcells l).length = l.length * 5 := by
  induction l with
  | nil => rfl
  | cons p l ih => simp [rcells, rcs] at ih ⊢; omega
theorem rcells_get {l : List Rv} {k : Nat} {p : Rv} (h : l[k]? = some p) (j : Nat) (hj : j < 5) : (rcells l)[k * 5 + j]? = (rcs p)[j]? := by
  obtain ⟨hk, he⟩ := List.getElem?_eq_some_iff.1 h
  have e : l = l.take k ++ (p :: l.drop (k + 1)) := by
    rw [← he, List.getElem_cons_drop]
    simp
  have e2 : rcells l = rcells (l.take k) ++ (rcs p ++ rcells (l.drop (k + 1))) := by
    conv => lhs; rw [e]
    rw [rcells_append]
    rfl
  have hl : (rcells (l.take k)).length = k * 5 := by rw [rcells_length, List.length_take]; omega
  rw [e2, List.getElem?_append_right (by omega), hl, show k * 5 + j - k * 5 = j by omega, List.getElem?_append_left (by simp [rcs]; omega)]
/-- the versions that a slice holds -/
structure LIn (w : World) (a : Option Addr) (L : List Vs) : Prop where
  get : ∀ k v, L[k]? = some v → ∃ b off ma mc, a = some ⟨b, off, none⟩ ∧ b < w.heap.size ∧ w.cell? ⟨b, off + k * 5, none⟩ = some (str v.key) ∧ w.cell? ⟨b, off + k * 5 + 1, none⟩ = some (.int .i64 v.seq) ∧ w.cell? ⟨b, off + k * 5 + 2, none⟩ = some (.bool v.mkr) ∧ w.cell? ⟨b, off + k * 5 + 3, none⟩ = some (str v.data) ∧ w.cell? ⟨b, off + k * 5 + 4, none⟩ = some (.slice ma v.l.length mc) ∧ Sl w ma mc v.l
theorem LIn.later {w w' : World} {a : Option Addr} {L : List Vs} (h : LIn w a L) (hb : Below w.heap.size w w') : LIn w' a L := by
  refine ⟨fun k v hk => ?_⟩
  obtain ⟨b, off, ma, mc, h1, h2, c0, c1, c2, c3, c4, s⟩ := h.get k v hk
  exact ⟨b, off, ma, mc, h1, Nat.lt_of_lt_of_le h2 hb.size, (hb.cell (p := ⟨b, _, none⟩) h2).trans c0, (hb.cell (p := ⟨b, _, none⟩) h2).trans c1, (hb.cell (p := ⟨b, _, none⟩) h2).trans c2, (hb.cell (p := ⟨b, _, none⟩) h2).trans c3, (hb.cell (p := ⟨b, _, none⟩) h2).trans c4, s.later hb⟩
theorem LIn.take {w : World} {a : Option Addr} {L : List Vs} (h : LIn w a L) (n : Nat) : LIn w a (L.take n) := ⟨fun k v hk => h.get k v (by
  by_cases hkn : k < n
  · rw [List.getElem?_take_of_lt hkn] at hk; exact hk
  · rw [List.getElem?_eq_none (by rw [List.length_take]; omega)] at hk; cases hk)⟩
/-- a slice of versions as it is told -/
structure Ls (w : World) (a : Option Addr) (cap : Nat) (L : List Vs) : Prop where
  at' : LIn w a L
  le : L.length ≤ cap
  max : cap ≤ 9223372036854775807
  nil : a = none → cap = 0
theorem Ls.later {w w' : World} {a : Option Addr} {cap : Nat} {L : List Vs} (h : Ls w a cap L) (hb : Below w.heap.size w w') : Ls w' a cap L := ⟨h.at'.later hb, h.le, h.max, h.nil⟩
theorem Ls.take {w : World} {a : Option Addr} {cap : Nat} {L : List Vs} (h : Ls w a cap L) (n : Nat) : Ls w a cap (L.take n) := ⟨h.at'.take n, Nat.le_trans (by rw [List.length_take]; omega) h.le, h.max, h.nil⟩
theorem Ls.none (w : World) : Ls w none 0 [] := ⟨⟨fun k v hk => by simp at hk⟩, Nat.le_refl _, by omega, fun _ => rfl⟩
def dropV (a : Option Addr) (cap n : Nat) : Option Addr := match a with
  | none => none
  | some ad => if cap - n = 0 then some ad else some (ad.add (n * 5))
theorem Ls.drop {w : World} {a : Option Addr} {cap : Nat} {L : List Vs} (h : Ls w a cap L) (n : Nat) (hn : n ≤ L.length) : Ls w (dropV a cap n) (cap - n) (L.drop n) := by
  refine ⟨⟨fun k p hk => ?_⟩, by rw [List.length_drop]; have := h.le; omega, by have := h.max; omega, ?_⟩
  · rw [List.getElem?_drop] at hk
    obtain ⟨b, off, ma, mc, rfl, h1, c0, c1, c2, c3, c4, s⟩ := h.at'.get _ _ hk
    have hlt : n + k < L.length := (List.getElem?_eq_some_iff.1 hk).1
    have hle := h.le
    have e : off + n * 5 + k * 5 = off + (n + k) * 5 := by omega
    refine ⟨b, off + n * 5, ma, mc, ?_, h1, by rw [e]; exact c0, by rw [e]; exact c1, by rw [e]; exact c2, by rw [e]; exact c3, by rw [e]; exact c4, s⟩
    show (if cap - n = 0 then _ else _) = _
    rw [if_neg (by omega), addr_add]
  · intro q
    cases a with
    | none => have := h.nil rfl; omega
    | some ad =>
      unfold dropV at q
      simp only at q
      split at q <;> cases q
/-- a row of versions of one's own, its pairs' rows too, no two of them one -/
structure Fo (base : Nat) (w : World) (v : Value) (R : List Rv) : Prop where
  own : w.ownsRow base 62 5 v R.length (rcells R)
  le : base ≤ w.heap.size
  met : ∀ (k : Nat) (r : Rv), R[k]? = some r → Ow base w r.mv (r.v.l ++ r.z)
  par : ∀ (j k : Nat) (r r' : Rv), ¬ j = k → R[j]? = some r → R[k]? = some r' → ∀ b, r.mv.ownBlock = some b → r'.mv.ownBlock ≠ some b
theorem _root_.Go.Proofs.YtdfjlmfnkhhnjaaGreatDoor.Ow.type {base : Nat} {w : World} {v : Value} {l : List En} (h : Ow base w v l) {g : Nat} (hg : v.ownBlock = some g) : ∃ cs, w.heap[g]? = some (.cells cs 49 (0, 0)) := by
  rcases h.own.2 with ⟨e, h0⟩ | ⟨g', cap, cur, e, h2, h3, _⟩
  · subst e; cases hg
  · subst e
    have : g' = g := by simpa [Value.ownBlock] using hg
    subst this
    exact ⟨_, h3⟩
theorem own_type {base n : Nat} {w : World} {v : Value} {xs : List Value} {t : TypeId} {s : Nat} (h : w.ownsRow base t s v n xs) {g : Nat} (hg : v.ownBlock = some g) : ∃ cs, w.heap[g]? = some (.cells cs t (0, 0)) := by
  rcases h.2 with ⟨e, h0⟩ | ⟨g', cap, cur, e, h2, h3, _⟩
  · subst e; cases hg
  · subst e
    have : g' = g := by simpa [Value.ownBlock] using hg
    subst this
    exact ⟨_, h3⟩
theorem own_apart {base base' n m s s' : Nat} {w : World} {v v' : Value} {xs ys : List Value} {t t' : TypeId} (h : w.ownsRow base t s v n xs) (h' : w.ownsRow base' t' s' v' m ys) (ht : t ≠ t') {g : Nat} (hg : v.ownBlock = some g) : v'.ownBlock ≠ some g := fun q => by
  obtain ⟨c1, e1⟩ := own_type h hg
  obtain ⟨c2, e2⟩ := own_type h' q
  rw [e1] at e2
  injection e2 with e2
  injection e2 with _ e2
  exact ht e2
theorem own_same {base n s : Nat} {w w' : World} {v : Value} {xs : List Value} {t : TypeId} (h : w.ownsRow base t s v n xs) (hb : ∀ g, v.ownBlock = some g → w'.heap[g]? = w.heap[g]?) : w'.ownsRow base t s v n xs := by
  refine ⟨h.1, ?_⟩
  rcases h.2 with e | ⟨g, cap, cur, e, h2, h3, h4⟩
  · exact .inl e
  · exact .inr ⟨g, cap, cur, e, h2, by rw [hb g (by rw [e]; rfl)]; exact h3, h4⟩
theorem _root_.Go.Proofs.YtdfjlmfnkhhnjaaGreatDoor.Ow.same {base : Nat} {w w' : World} {v : Value} {l : List En} (h : Ow base w v l) (hs : w.heap.size ≤ w'.heap.size) (hb : ∀ g, v.ownBlock = some g → w'.heap[g]? = w.heap[g]?) : Ow base w' v l := ⟨own_same h.own hb, Nat.le_trans h.le hs⟩
theorem Fo.nil (w : World) (base : Nat) (h : base ≤ w.heap.size) : Fo base w (.slice none 0 0) [] := ⟨World.ownsRow_nil _ _ _ _, h, fun k r h => by simp at h, fun j k r r' _ h => by simp at h⟩
theorem Fo.later {base : Nat} {w w' : World} {v : Value} {R : List Rv} (h : Fo base w v R) (hb : Below w.heap.size w w') : Fo base w' v R := ⟨own_later h.own hb, Nat.le_trans h.le hb.size, fun k r hk => (h.met k r hk).later hb, h.par⟩
theorem Fo.base {b b' : Nat} {w : World} {v : Value} {R : List Rv} (h : Fo b w v R) (hb : b' ≤ b) : Fo b' w v R := by
  refine ⟨⟨h.own.1, ?_⟩, Nat.le_trans hb h.le, fun k r hk => (h.met k r hk).base hb, h.par⟩
  rcases h.own.2 with e | ⟨g, cap, cur, e1, e2, e3⟩
  · exact Or.inl e
  · exact Or.inr ⟨g, cap, cur, e1, Nat.le_trans hb e2, e3⟩
/-- one more that may be put behind -/
structure Ad (base : Nat) (w : World) (v : Value) (R : List Rv) (r : Rv) : Prop where
  fo : Fo base w v R
  ow : Ow base w r.mv (r.v.l ++ r.z)
  ap : ∀ (k : Nat) (r' : Rv), R[k]? = some r' → ∀ b, r.mv.ownBlock = some b → r'.mv.ownBlock ≠ some b
theorem Fo.ad {base : Nat} {w w1 : World} {v : Value} {R : List Rv} {r : Rv} (h : Fo base w v R) (hb : Below w.heap.size w w1) (ho : Ow w.heap.size w1 r.mv (r.v.l ++ r.z)) : Ad base w1 v R r := by
  refine ⟨h.later hb, ho.base h.le, fun k r' hk b hr hr' => ?_⟩
  have h1 := (ho.own.lt b hr).1
  have h2 := ((h.met k r' hk).own.lt b hr').2
  omega
/-- a copy: a list of one's own, nothing behind its pairs -/
def Cp (base : Nat) (w : World) (v : Value) (L : List Vs) : Prop := ∃ R, Fo base w v R ∧ R.map (·.v) = L ∧ ∀ r ∈ R, r.z = []
theorem Cp.nil (w : World) (base : Nat) (h : base ≤ w.heap.size) : Cp base w (.slice none 0 0) [] := ⟨[], Fo.nil w base h, rfl, by simp⟩
theorem Cp.later {base : Nat} {w w' : World} {v : Value} {L : List Vs} (h : Cp base w v L) (hb : Below w.heap.size w w') : Cp base w' v L := by
  obtain ⟨R, h1, h2, h3⟩ := h
  exact ⟨R, h1.later hb, h2, h3⟩
theorem Cp.base {b b' : Nat} {w : World} {v : Value} {L : List Vs} (h : Cp b w v L) (hb : b' ≤ b) : Cp b' w v L := by
  obtain ⟨R, h1, h2, h3⟩ := h
  exact ⟨R, h1.base hb, h2, h3⟩
theorem Cp.le {base : Nat} {w : World} {v : Value} {L : List Vs} (h : Cp base w v L) : base ≤ w.heap.size := by
  obtain ⟨R, h1, h2, h3⟩ := h
  exact h1.le
end Go.Proofs.YtdfjlmfnkhhnjaaGreatDoor.Stk

/- Boxes with a version; appends to long rows of pairs. -/
namespace Go.Proofs.YtdfjlmfnkhhnjaaGreatDoor.Stk
set_option maxRecDepth 100000
set_option linter.unusedVariables false
set_option linter.unusedSimpArgs false
open Go.RowKit
attribute [local go_sem ↓] Go.wp_at_zero Go.wp_at_succ
attribute [local go_sem ↓] slPe
theorem app_oneB {ops : Array Oper} {rest : List Oper} {o : Oper} {a : Act} {Q : Exit → Act → World → Prop} {W : World} (hgd : o.guard = none) (s x : Operand) (ho : o.op = .call { callee := .builtin .append, args := #[s, x], argTypes := #[43, 43] })
    {base : Nat} {w : World} {v : Value} {l : List En} {g : Nat} (p : En) (hW : W = w.alloc (.cells #[str p.key, str p.val] 49)) (hO : Ow base w v l) (hg : g = w.heap.size) (hn : l.length ≤ 4500000000000)
    (hs : a.eval s = v) (hx : a.eval x = .slice (some ⟨g, 0, none⟩) 1 1)
    (h : ∀ v' w', Ow base w' v' (l ++ [p]) → Below base w w' → wpList Tryz.prog ops Q rest (a.put o.dst v') w') :
    wpList Tryz.prog ops Q (o :: rest) a W := by
  obtain ⟨i0, hi0, hz0, hz1, hz2⟩ := infoP
  subst hW hg
  have hm : maxLen = 9223372036854775807 := rfl
  refine wpList_append_own_wide _ hgd s x 43 ho base 49 i0 _ 2 32 Tryz.underlying43 hi0 hz0 hz1 hz2 rfl (by omega) v l.length (pcells l) hs (hO.own.alloc _) _ 1 1 (pcs p) hx rfl
    (World.news_of_block (cs := #[str p.key, str p.val]) (t := 49) (fr := (0, 0)) (heap_alloc_new w _)) (by simp [pcs, Value.oneCell']) (by rw [hm]; omega) (by omega) (by have := hO.le; simp; omega) ?_
  intro v' w' hown hgrow _
  refine h v' w' ⟨?_, ?_⟩ ?_
  · rw [pcells_append, List.length_append]
    have : pcells [p] = pcs p := by simp [pcells]
    rw [this]; exact hown
  · have := hgrow.size; have h2 := hO.le; simp at this; omega
  · exact ((Below.refl _ _).alloc hO.le _).trans (grown_below (hO.own.alloc _) (by have := hO.le; simp; omega) hgrow)
def mk : En := ⟨[109, 97, 114, 107], []⟩
theorem Sl.head {w : World} {a : Option Addr} {cap : Nat} {l : List En} {m : En} (h : Sl w a cap (l ++ [m])) : Sl w a cap l := by
  have := h.take l.length
  rw [List.take_left] at this
  exact this
/-- a box with a version -/
def Bv (w : World) (g : Nat) (x y z u v : Value) : Prop := w.heap[g]? = some (.cells #[x, y, z, u, v] 62 (0, 0))
theorem Bv.lt {w : World} {g : Nat} {x y z u v : Value} (h : Bv w g x y z u v) : g < w.heap.size := (Array.getElem?_eq_some_iff.1 h).1
theorem Bv.cells {w : World} {g : Nat} {x y z u v : Value} (h : Bv w g x y z u v) : w.cell? ⟨g, 0, none⟩ = some x ∧ w.cell? ⟨g, 1, none⟩ = some y ∧ w.cell? ⟨g, 2, none⟩ = some z ∧ w.cell? ⟨g, 3, none⟩ = some u ∧ w.cell? ⟨g, 4, none⟩ = some v ∧ ∀ j, w.frozen? ⟨g, j, none⟩ = false := by
  refine ⟨?_, ?_, ?_, ?_, ?_, fun j => frozen_of_row _ _ _ _ _ h⟩
  all_goals rw [cell_of_row _ _ _ _ _ _ h]; rfl
theorem Bv.later {w w' : World} {g : Nat} {x y z u v : Value} (h : Bv w g x y z u v) (hb : Below w.heap.size w w') : Bv w' g x y z u v := by
  unfold Bv
  rw [hb.block g h.lt]; exact h
theorem Bv.drew {w : World} {g : Nat} {x y z u v : Value} (h : Bv w g x y z u v) : Bv w.drew g x y z u v := h
theorem Bv.new (w : World) (x y z u v : Value) : Bv (w.alloc (.cells #[x, y, z, u, v] 62)) w.heap.size x y z u v := heap_alloc_new _ _
theorem Bv.other {w : World} {g : Nat} {x y z u v : Value} (h : Bv w g x y z u v) {g2 j : Nat} (hg : g ≠ g2) (c : Value) : Bv (w.setCell ⟨g2, j, none⟩ c) g x y z u v := by
  unfold Bv
  rw [heap_setCell_other _ _ _ _ (by first | exact hg | exact hg.symm)]; exact h
theorem Bv.set0 {w : World} {g : Nat} {x y z u v : Value} (h : Bv w g x y z u v) (c : Value) : Bv (w.setCell ⟨g, 0, none⟩ c) g c y z u v := by
  unfold Bv
  rw [heap_setCell_same _ _ _ _ _ _ h]; rfl
theorem Bv.set1 {w : World} {g : Nat} {x y z u v : Value} (h : Bv w g x y z u v) (c : Value) : Bv (w.setCell ⟨g, 1, none⟩ c) g x c z u v := by
  unfold Bv
  rw [heap_setCell_same _ _ _ _ _ _ h]; rfl
theorem Bv.set2 {w : World} {g : Nat} {x y z u v : Value} (h : Bv w g x y z u v) (c : Value) : Bv (w.setCell ⟨g, 2, none⟩ c) g x y c u v := by
  unfold Bv
  rw [heap_setCell_same _ _ _ _ _ _ h]; rfl
theorem Bv.set3 {w : World} {g : Nat} {x y z u v : Value} (h : Bv w g x y z u v) (c : Value) : Bv (w.setCell ⟨g, 3, none⟩ c) g x y z c v := by
  unfold Bv
  rw [heap_setCell_same _ _ _ _ _ _ h]; rfl
theorem Bv.set4 {w : World} {g : Nat} {x y z u v : Value} (h : Bv w g x y z u v) (c : Value) : Bv (w.setCell ⟨g, 4, none⟩ c) g x y z u c := by
  unfold Bv
  rw [heap_setCell_same _ _ _ _ _ _ h]; rfl
theorem _root_.Go.Proofs.YtdfjlmfnkhhnjaaGreatDoor.Ow.other {base : Nat} {w : World} {v : Value} {l : List En} (h : Ow base w v l) {g j : Nat} (hg : v.ownBlock ≠ some g) (c : Value) : Ow base (w.setCell ⟨g, j, none⟩ c) v l :=
  ⟨ownsRow_setCell_other h.own (a := ⟨g, _, none⟩) hg _, by simpa using h.le⟩
/-- a whole version is laid into a box -/
def s5 (w : World) (R : Nat) (a b c d e : Value) : World := ((((w.setCell ⟨R, 0, none⟩ a).setCell ⟨R, 1, none⟩ b).setCell ⟨R, 2, none⟩ c).setCell ⟨R, 3, none⟩ d).setCell ⟨R, 4, none⟩ e
theorem Bv.s5 {w : World} {R : Nat} {x y z u v : Value} (h : Bv w R x y z u v) (a b c d e : Value) : Bv (s5 w R a b c d e) R a b c d e := ((((h.set0 a).set1 b).set2 c).set3 d).set4 e
theorem _root_.Go.Proofs.YtdfjlmfnkhhnjaaGreatDoor.Ow.s5 {base : Nat} {w : World} {v : Value} {l : List En} (h : Ow base w v l) {R : Nat} (hg : v.ownBlock ≠ some R) (a b c d e : Value) : Ow base (s5 w R a b c d e) v l := ((((h.other hg a).other hg b).other hg c).other hg d).other hg e
theorem Below.s5 {B : Nat} {w w' : World} (h : Below B w w') {R : Nat} (hR : B ≤ R) (a b c d e : Value) : Below B w (s5 w' R a b c d e) :=
  ((((h.setCell (p := ⟨R, 0, none⟩) hR a).setCell (p := ⟨R, 1, none⟩) hR b).setCell (p := ⟨R, 2, none⟩) hR c).setCell (p := ⟨R, 3, none⟩) hR d).setCell (p := ⟨R, 4, none⟩) hR e
theorem Fo.other {base : Nat} {w : World} {v : Value} {R : List Rv} (h : Fo base w v R) {g j : Nat} (hg : v.ownBlock ≠ some g) (hm : ∀ (k : Nat) (r : Rv), R[k]? = some r → r.mv.ownBlock ≠ some g) (c : Value) : Fo base (w.setCell ⟨g, j, none⟩ c) v R :=
  ⟨ownsRow_setCell_other h.own (a := ⟨g, _, none⟩) hg _, by simpa using h.le, fun k r hk => (h.met k r hk).other (hm k r hk) c, h.par⟩
theorem Fo.up {base B : Nat} {w w' : World} {v : Value} {R : List Rv} (h : Fo base w v R) (hb : Below B w w') (hx : ∀ g, (v.ownBlock = some g ∨ ∃ (k : Nat) (r : Rv), R[k]? = some r ∧ r.mv.ownBlock = some g) → g < B) : Fo base w' v R :=
  ⟨own_same h.own (fun g hg => hb.block g (hx g (.inl hg))), Nat.le_trans h.le hb.size, fun k r hk => (h.met k r hk).same hb.size (fun g hg => hb.block g (hx g (.inr ⟨k, r, hk, hg⟩))), h.par⟩
end Go.Proofs.YtdfjlmfnkhhnjaaGreatDoor.Stk

/- Rows of versions of one's own: cells set, blocks told (own_cellT to tc_set: as wip/bucket/Fob). -/
namespace Go.Proofs.YtdfjlmfnkhhnjaaGreatDoor.Stk
set_option maxRecDepth 100000
set_option linter.unusedVariables false
set_option linter.unusedSimpArgs false
open Go.RowKit
theorem own_cellT {w : World} {base g cap n s : Nat} {t : TypeId} {xs : List Value} (h : w.ownsRow base t s (.slice (some ⟨g, 0, none⟩) n cap) n xs) (j : Nat) (u : Value) : (w.setCell ⟨g, j, none⟩ u).ownsRow base t s (.slice (some ⟨g, 0, none⟩) n cap) n (xs.set j u) := by
  refine ⟨by rw [List.length_set]; exact h.1, ?_⟩
  rcases h.2 with ⟨e, _⟩ | ⟨g', cap', cur, e, h2, h3, h4, h5, h6, h7⟩
  · cases e
  · injection e with e1 e2 e3
    injection e1 with e1
    injection e1 with e1
    subst e1 e3
    refine Or.inr ⟨g, cap, _, rfl, h2, heap_setCell_same _ _ _ _ _ _ h3, h4, h5, by rw [Array.size_setIfInBounds]; exact h6, ?_⟩
    rw [Array.toList_setIfInBounds, ← h7, List.take_set]
theorem pcells_set (l : List En) (i : Nat) (p : En) (hi : i < l.length) : pcells (l.set i p) = ((pcells l).set (i * 2) (str p.key)).set (i * 2 + 1) (str p.val) := by
  induction l generalizing i with
  | nil => simp at hi
  | cons q l ih =>
    cases i with
    | zero => simp [pcells, pcs]
    | succ i =>
      have := ih i (by simpa using hi)
      have e : ∀ x : List En, pcells (q :: x) = pcs q ++ pcells x := fun x => by simp [pcells]
      rw [List.set_cons_succ, e, e, this]
      simp [pcs, show (i + 1) * 2 = i * 2 + 1 + 1 by omega]
theorem rcells_cons (q : Rv) (l : List Rv) : rcells (q :: l) = rcs q ++ rcells l := by simp [rcells]
theorem rcells_set4 : ∀ (R : List Rv) (k : Nat) (r : Rv) (l' : List En) (a : Option Addr) (c : Nat) (z : List En), R[k]? = some r → rcells (R.set k ⟨{ r.v with l := l' }, z, a, c⟩) = (rcells R).set (k * 5 + 4) (.slice a l'.length c)
  | [], k, r, l', a, c, z, h => by simp at h
  | q :: l, 0, r, l', a, c, z, h => by
    simp at h
    subst h
    rw [List.set_cons_zero, rcells_cons, rcells_cons]
    simp [rcs]
  | q :: l, k + 1, r, l', a, c, z, h => by
    have := rcells_set4 l k r l' a c z (by simpa using h)
    rw [List.set_cons_succ, rcells_cons, rcells_cons, this]
    simp [rcs, show (k + 1) * 5 + 4 = k * 5 + 4 + 1 + 1 + 1 + 1 + 1 by omega]
theorem rcells_setl : ∀ (R : List Rv) (k : Nat) (r : Rv) (l' : List En), R[k]? = some r → l'.length = r.v.l.length → rcells (R.set k { r with v := { r.v with l := l' } }) = rcells R
  | [], k, r, l', h, _ => by simp at h
  | q :: l, 0, r, l', h, e => by
    simp at h
    subst h
    rw [List.set_cons_zero, rcells_cons, rcells_cons]
    simp [rcs, e]
  | q :: l, k + 1, r, l', h, e => by
    rw [List.set_cons_succ, rcells_cons, rcells_cons, rcells_setl l k r l' (by simpa using h) e]
/-- the blocks of a row of versions -/
def Tc (v : Value) (R : List Rv) (g : Nat) : Prop := v.ownBlock = some g ∨ ∃ (k : Nat) (r : Rv), R[k]? = some r ∧ r.mv.ownBlock = some g
theorem Fo.frame {B : Nat} {w w' : World} {v : Value} {R : List Rv} (h : Fo B w v R) (hs : w.heap.size ≤ w'.heap.size) (hx : ∀ g, Tc v R g → w'.heap[g]? = w.heap[g]?) : Fo B w' v R :=
  ⟨own_same h.own (fun g hg => hx g (.inl hg)), Nat.le_trans h.le hs, fun k r hk => (h.met k r hk).same hs (fun g hg => hx g (.inr ⟨k, r, hk, hg⟩)), h.par⟩
theorem Fo.vm {B : Nat} {w : World} {v : Value} {R : List Rv} (h : Fo B w v R) {k : Nat} {r : Rv} (hk : R[k]? = some r) {g : Nat} (hg : v.ownBlock = some g) : r.mv.ownBlock ≠ some g := own_apart h.own (h.met k r hk).own (by decide) hg
theorem Fo.mv {B : Nat} {w : World} {v : Value} {R : List Rv} (h : Fo B w v R) {k : Nat} {r : Rv} (hk : R[k]? = some r) {g : Nat} (hg : r.mv.ownBlock = some g) : v.ownBlock ≠ some g := own_apart (h.met k r hk).own h.own (by decide) hg
theorem set_get {R : List Rv} {k j : Nat} {r' q : Rv} (h : (R.set k r')[j]? = some q) : (j = k ∧ q = r') ∨ (¬ j = k ∧ R[j]? = some q) := by
  by_cases e : j = k
  · subst e
    have hl := (List.getElem?_eq_some_iff.1 h).1
    rw [List.getElem?_set_self (by simpa using hl)] at h
    injection h with h
    exact .inl ⟨rfl, h.symm⟩
  · rw [List.getElem?_set_ne (fun q => e q.symm)] at h
    exact .inr ⟨e, h⟩
/-- a pair set -/
theorem Fo.setPair {B : Nat} {w : World} {v : Value} {R : List Rv} (h : Fo B w v R) {k : Nat} {r : Rv} (hk : R[k]? = some r) (hz : r.z = []) {mb n : Nat} (ha : r.a = some ⟨mb, 0, none⟩) (hn : n < r.v.l.length) (p : En) :
    Fo B ((w.setCell ⟨mb, n * 2, none⟩ (str p.key)).setCell ⟨mb, n * 2 + 1, none⟩ (str p.val)) v (R.set k { r with v := { r.v with l := r.v.l.set n p } }) := by
  have hb : r.mv.ownBlock = some mb := by unfold Rv.mv; rw [ha]; rfl
  have hlen : (r.v.l.set n p).length = r.v.l.length := List.length_set
  have hmv : ({ r with v := { r.v with l := r.v.l.set n p } } : Rv).mv = r.mv := by unfold Rv.mv; simp
  refine ⟨?_, by simpa using h.le, fun j q hq => ?_, fun i j q q' hij hq hq' b hb2 => ?_⟩
  · rw [List.length_set, rcells_setl R k r _ hk hlen]
    exact ownsRow_setCell_other (ownsRow_setCell_other h.own (a := ⟨mb, _, none⟩) (h.mv hk hb) _) (a := ⟨mb, _, none⟩) (h.mv hk hb) _
  · rcases set_get hq with ⟨rfl, rfl⟩ | ⟨hj, hq⟩
    · have ho := h.met j r hk
      refine ⟨?_, by simpa using ho.le⟩
      have ho := ho.own
      rw [hmv]
      have hm : r.mv = .slice (some ⟨mb, 0, none⟩) r.v.l.length r.c := by unfold Rv.mv; rw [ha, hz]; rfl
      rw [hm, hz, List.append_nil] at ho
      show World.ownsRow _ B 49 2 r.mv ((r.v.l.set n p) ++ r.z).length (pcells ((r.v.l.set n p) ++ r.z))
      rw [hm, hz, List.append_nil, hlen, pcells_set _ _ _ hn]
      exact own_cellT (own_cellT ho _ _) _ _
    · have hne := h.par k j r q (fun e => hj e.symm) hk hq mb hb
      exact ((h.met j q hq).other hne _).other hne _
  · rcases set_get hq with ⟨rfl, rfl⟩ | ⟨_, hq1⟩
    · rw [hmv] at hb2
      rcases set_get hq' with ⟨rfl, rfl⟩ | ⟨_, hq'⟩
      · exact absurd rfl hij
      · exact h.par i j r q' hij hk hq' b hb2
    · rcases set_get hq' with ⟨rfl, rfl⟩ | ⟨_, hq'⟩
      · rw [hmv]
        exact h.par i j q r hij hq1 hk b hb2
      · exact h.par i j q q' hij hq1 hq' b hb2
theorem tc_set {v : Value} {R : List Rv} {k : Nat} {r r' : Rv} (hk : R[k]? = some r) {g s : Nat} (hr : ∀ b, r'.mv.ownBlock = some b → r.mv.ownBlock = some b ∨ s ≤ b) (h : Tc v (R.set k r') g) : Tc v R g ∨ s ≤ g := by
  rcases h with q | ⟨j, x, h1, h2⟩
  · exact .inl (.inl q)
  · rcases set_get h1 with ⟨rfl, rfl⟩ | ⟨_, h1⟩
    · rcases hr g h2 with q | q
      · exact .inl (.inr ⟨j, r, hk, q⟩)
      · exact .inr q
    · exact .inl (.inr ⟨j, x, h1, h2⟩)
/-- what turns lies in X -/
structure Ot (X : Nat → Prop) (w w' : World) : Prop where
  os : w'.os = w.os
  tape : w'.tape = w.tape
  output : w'.output = w.output
  size : w.heap.size ≤ w'.heap.size
  block : ∀ k, k < w.heap.size → ¬ X k → w'.heap[k]? = w.heap[k]?
theorem Ot.refl (X : Nat → Prop) (w : World) : Ot X w w := ⟨rfl, rfl, rfl, Nat.le_refl _, fun _ _ _ => rfl⟩
theorem Ot.trans {X : Nat → Prop} {w w' w'' : World} (h : Ot X w w') (h2 : Ot X w' w'') : Ot X w w'' := ⟨h2.os.trans h.os, h2.tape.trans h.tape, h2.output.trans h.output, Nat.le_trans h.size h2.size, fun k hk hx => (h2.block k (Nat.lt_of_lt_of_le hk h.size) hx).trans (h.block k hk hx)⟩
theorem Ot.bel {X : Nat → Prop} {w w' : World} (h : Below w.heap.size w w') : Ot X w w' := ⟨h.os, h.tape, h.output, h.size, fun k hk _ => h.block k hk⟩
theorem Ot.mono {X Y : Nat → Prop} {w w' : World} (h : Ot X w w') (hx : ∀ k, k < w.heap.size → X k → Y k) : Ot Y w w' := ⟨h.os, h.tape, h.output, h.size, fun k hk hy => h.block k hk (fun q => hy (hx k hk q))⟩
theorem Ot.below {X : Nat → Prop} {w w' : World} {n : Nat} (h : Ot X w w') (hn : n ≤ w.heap.size) (hx : ∀ k, X k → n ≤ k) : Below n w w' := ⟨h.os, h.tape, h.output, h.size, fun k hk => h.block k (by omega) (fun q => by have := hx k q; omega)⟩
theorem Ot.set {X : Nat → Prop} {w w' : World} {g j : Nat} {v : Value} (h : Ot X w w') (hx : X g) : Ot X w (w'.setCell ⟨g, j, none⟩ v) := by
  refine h.trans ⟨rfl, rfl, rfl, by simp, fun k hk hn => ?_⟩
  exact Below.heap_setCell _ _ _ _ (fun q => hn (by rw [q]; exact hx))
/-- a version's pairs grown -/
theorem Fo.setMeta {B : Nat} {w w' : World} {g cap n : Nat} {R : List Rv} (h : Fo B w (.slice (some ⟨g, 0, none⟩) n cap) R) (hn : n = R.length) {k : Nat} {r : Rv} (hk : R[k]? = some r) {g' c' : Nat} {l' : List En}
    (ho : Ow B w' (.slice (some ⟨g', 0, none⟩) l'.length c') l') (hs : w.heap.size ≤ w'.heap.size) (hf : ∀ b, b < w.heap.size → r.mv.ownBlock ≠ some b → w'.heap[b]? = w.heap[b]?) (hg : r.mv.ownBlock = some g' ∨ w.heap.size ≤ g') :
    Fo B (w'.setCell ⟨g, k * 5 + 4, none⟩ (.slice (some ⟨g', 0, none⟩) l'.length c')) (.slice (some ⟨g, 0, none⟩) n cap) (R.set k ⟨{ r.v with l := l' }, [], some ⟨g', 0, none⟩, c'⟩) := by
  subst hn
  have hgB := h.own.lt g rfl
  have hgg : g' ≠ g := by
    rintro rfl
    rcases hg with q | q
    · exact h.vm hk rfl q
    · omega
  have h1 : w'.ownsRow B 62 5 (.slice (some ⟨g, 0, none⟩) R.length cap) R.length (rcells R) := own_same h.own (fun b hb => hf b (h.own.lt b hb).2 (h.vm hk hb))
  refine ⟨?_, by have := h.le; simp; omega, fun j q hq => ?_, fun i j q q' hij hq hq' b hb => ?_⟩
  · rw [List.length_set, rcells_set4 R k r l' _ c' [] hk]
    exact own_cellT h1 _ _
  · rcases set_get hq with ⟨rfl, rfl⟩ | ⟨hj, hq⟩
    · have : Ow B (w'.setCell ⟨g, j * 5 + 4, none⟩ (.slice (some ⟨g', 0, none⟩) l'.length c')) (.slice (some ⟨g', 0, none⟩) l'.length c') l' := ho.other (by intro q; injection q with q; exact hgg q) _
      simpa [Rv.mv] using this
    · have hm := h.met j q hq
      have hm' : Ow B w' q.mv (q.v.l ++ q.z) := hm.same hs (fun b hb => hf b (hm.own.lt b hb).2 (h.par j k q r hj hq hk b hb))
      exact hm'.other (h.vm hq rfl) _
  · have key : ∀ (j : Nat) (q : Rv), ¬ j = k → R[j]? = some q → q.mv.ownBlock ≠ some g' := fun j q hj hq e => by
      rcases hg with x | x
      · exact h.par j k q r hj hq hk g' e x
      · have := ((h.met j q hq).own.lt g' e).2
        omega
    rcases set_get hq with ⟨rfl, rfl⟩ | ⟨hi, hq1⟩
    · have e : b = g' := by simpa [Rv.mv, Value.ownBlock] using hb.symm
      subst e
      rcases set_get hq' with ⟨rfl, rfl⟩ | ⟨hj, hq'⟩
      · exact absurd rfl hij
      · exact key j q' hj hq'
    · rcases set_get hq' with ⟨rfl, rfl⟩ | ⟨_, hq'⟩
      · intro e
        have e : b = g' := by simpa [Rv.mv, Value.ownBlock] using e.symm
        subst e
        exact key i q hi hq1 hb
      · exact h.par i j q q' hij hq1 hq' b hb
theorem Fo.row {B : Nat} {w : World} {a : Option Addr} {n cap : Nat} {R : List Rv} (h : Fo B w (.slice a n cap) R) {k : Nat} {r : Rv} (hk : R[k]? = some r) : ∃ g, a = some ⟨g, 0, none⟩ ∧ n = R.length ∧ g < w.heap.size ∧ (w.cell? ⟨g, k * 5, none⟩ = some (str r.v.key) ∧ w.cell? ⟨g, k * 5 + 1, none⟩ = some (.int .i64 r.v.seq) ∧ w.cell? ⟨g, k * 5 + 2, none⟩ = some (.bool r.v.mkr) ∧ w.cell? ⟨g, k * 5 + 3, none⟩ = some (str r.v.data) ∧ w.cell? ⟨g, k * 5 + 4, none⟩ = some (.slice r.a r.v.l.length r.c)) ∧ ∀ j, w.frozen? ⟨g, j, none⟩ = false := by
  have hl := (List.getElem?_eq_some_iff.1 hk).1
  rcases h.own.2 with ⟨e, h0⟩ | ⟨g, cp, cur, e, h2, h3, h4, h5, h6, h7⟩
  · omega
  · injection e with e1 e2 e3
    subst e1 e2 e3
    have hp : (rcells R).length = R.length * 5 := rcells_length R
    have hx : ∀ j, j < 5 → w.cell? ⟨g, k * 5 + j, none⟩ = (rcs r)[j]? := fun j hj => by rw [h.own.cellAt _ (by omega), rcells_get hk j hj]
    exact ⟨g, rfl, rfl, (h.own.lt g rfl).2, ⟨hx 0 (by omega), hx 1 (by omega), hx 2 (by omega), hx 3 (by omega), hx 4 (by omega)⟩, fun j => frozen_of_row _ _ _ _ _ h3⟩
theorem Fo.pairs {B : Nat} {w : World} {v : Value} {R : List Rv} (h : Fo B w v R) {k : Nat} {r : Rv} (hk : R[k]? = some r) {n : Nat} {p : En} (hp : (r.v.l ++ r.z)[n]? = some p) : ∃ q, r.a = some ⟨q, 0, none⟩ ∧ q < w.heap.size ∧ w.cell? ⟨q, n * 2, none⟩ = some (str p.key) ∧ w.cell? ⟨q, n * 2 + 1, none⟩ = some (str p.val) ∧ r.v.l.length + r.z.length ≤ r.c ∧ r.c ≤ 9223372036854775807 ∧ ∀ j, w.frozen? ⟨q, j, none⟩ = false := by
  have o := h.met k r hk
  have hl := (List.getElem?_eq_some_iff.1 hp).1
  rcases o.own.2 with ⟨e, h0⟩ | ⟨g, cp, cur, e, h2, h3, h4, h5, h6, h7⟩
  · omega
  · unfold Rv.mv at e
    injection e with e1 e2 e3
    have o2 : w.ownsRow B 49 2 (.slice (some ⟨g, 0, none⟩) (r.v.l ++ r.z).length r.c) (r.v.l ++ r.z).length (pcells (r.v.l ++ r.z)) := by
      have := o.own
      unfold Rv.mv at this
      rw [e1] at this
      rw [List.length_append] at this ⊢
      exact this
    obtain ⟨c0, c1⟩ := pcells_get hp
    have hpl : (pcells (r.v.l ++ r.z)).length = (r.v.l ++ r.z).length * 2 := pcells_length _
    refine ⟨g, e1, (o2.lt g rfl).2, ?_, ?_, by rw [List.length_append] at h4; rw [e3]; omega, by rw [e3]; exact h5, fun j => frozen_of_row _ _ _ _ _ h3⟩
    · rw [o2.cellAt _ (by omega)]; exact c0
    · rw [o2.cellAt _ (by omega)]; exact c1
end Go.Proofs.YtdfjlmfnkhhnjaaGreatDoor.Stk
