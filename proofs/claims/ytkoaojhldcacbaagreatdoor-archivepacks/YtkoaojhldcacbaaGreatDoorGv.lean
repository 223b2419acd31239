import Derived.Test.YtkoaojhldcacbaaGreatDoorGe
import Derived.Test.YtkoaojhldcacbaaGreatDoorGh
import Derived.Deep.RegionHeld3
/- Versions, stacks: no model here. -/
namespace Go.Proofs.YtkoaojhldcacbaaGreatDoor.Stk
set_option maxRecDepth 100000
set_option linter.unusedVariables false
set_option linter.unusedSimpArgs false
noncomputable def sv (v u : Vs) : Bool := by classical exact decide (v = u)
theorem sv_true {v u : Vs} (h : v = u) : sv v u = true := by unfold sv; simp [h]
theorem sv_false {v u : Vs} (h : ¬ v = u) : sv v u = false := by unfold sv; simp [h]
theorem sv_iff {v u : Vs} : sv v u = true ↔ v = u := by unfold sv; simp
def vs0 : Vs := ⟨[], 0, false, [], []⟩
end Go.Proofs.YtkoaojhldcacbaaGreatDoor.Stk

/- Rows of versions: where they lie, one's own, what an append does to them. -/
namespace Go.Proofs.YtkoaojhldcacbaaGreatDoor.Stk
set_option maxRecDepth 100000
set_option linter.unusedVariables false
set_option linter.unusedSimpArgs false
open Go.RowKit
/-- a version's value -/
abbrev vv (key : List UInt8) (seq : Int) (mk : Bool) (data : List UInt8) (a : Option Addr) (n cap : Nat) : Value := .agg #[str key, .int .i64 seq, .bool mk, str data, .slice a n cap]
/-- a version that lies in memory: its pairs' row, and what stands behind them -/
structure Rv where
  v : Vs
  z : List En
  a : Option Addr
  c : Nat
def Rv.mv (r : Rv) : Value := .slice r.a (r.v.l.length + r.z.length) r.c
def rcs (r : Rv) : List Value := [str r.v.key, .int .i64 r.v.seq, .bool r.v.mkr, str r.v.data, .slice r.a r.v.l.length r.c]
def rcells (l : List Rv) : List Value := (l.map rcs).flatten
theorem rcells_append (a b : List Rv) : rcells (a ++ b) = rcells a ++ rcells b := by simp [rcells]
theorem rcells_length (l : List Rv) : (rcells l).length = l.length * 5 := by
  induction l with
  | nil => rfl
  | cons p l ih => simp [rcells, rcs] at ih ⊢; omega
theorem rcells_get {l : List Rv} {k : Nat} {p : Rv} (h : l[k]? = some p) (j : Nat) (hj : j < 5) : (rcells l)[k * 5 + j]? = (rcs p)[j]? := by
  obtain ⟨hk, he⟩ := List.getElem?_eq_some_iff.1 h
  have e : l = l.take k ++ (p :: l.drop (k + 1)) := by
    rw [← he, List.getElem_cons_drop]
    simp
  have e2 : rcells l = rcells (l.take k) ++ (rcs p ++ rcells (l.drop (k + 1))) := by
    conv => lhs; rw [e]
    rw [rcells_append]
    rfl
  have hl : (rcells (l.take k)).length = k * 5 := by rw [rcells_length, List.length_take]; omega
  rw [e2, List.getElem?_append_right (by omega), hl, show k * 5 + j - k * 5 = j by omega, List.getElem?_append_left (by simp [rcs]; omega)]
theorem rcells_one (l : List Rv) : ∀ u ∈ rcells l, u.oneCell' = true := by
  intro u hu
  unfold rcells at hu
  rw [List.mem_flatten] at hu
  obtain ⟨x, hx, hu⟩ := hu
  obtain ⟨p, _, rfl⟩ := List.mem_map.1 hx
  simp [rcs] at hu
  rcases hu with rfl | rfl | rfl | rfl | rfl <;> rfl
theorem infoVf : (Tryz.prog.info? 33).map (fun i => (i.zero, i.size, i.bytes)) = some (some (.agg #[.string ⟨#[]⟩, .int .i64 0, .bool false, .string ⟨#[]⟩, .slice none 0 0]), 5, 72) := by kernel_rfl
theorem infoV : ∃ i, Tryz.prog.info? 33 = some i ∧ i.zero = some (.agg #[.string ⟨#[]⟩, .int .i64 0, .bool false, .string ⟨#[]⟩, .slice none 0 0]) ∧ i.size = 5 ∧ i.bytes = 72 := by
  have := infoVf
  cases hq : Tryz.prog.info? 33 with
  | none => rw [hq] at this; cases this
  | some i => rw [hq] at this; simp at this; exact ⟨i, rfl, this.1, this.2.1, this.2.2⟩
/-- the versions that a slice holds -/
structure LIn (w : World) (a : Option Addr) (L : List Vs) : Prop where
  get : ∀ k v, L[k]? = some v → ∃ b off ma mc, a = some ⟨b, off, none⟩ ∧ b < w.heap.size ∧ w.cell? ⟨b, off + k * 5, none⟩ = some (str v.key) ∧ w.cell? ⟨b, off + k * 5 + 1, none⟩ = some (.int .i64 v.seq) ∧ w.cell? ⟨b, off + k * 5 + 2, none⟩ = some (.bool v.mkr) ∧ w.cell? ⟨b, off + k * 5 + 3, none⟩ = some (str v.data) ∧ w.cell? ⟨b, off + k * 5 + 4, none⟩ = some (.slice ma v.l.length mc) ∧ Sl w ma mc v.l
theorem LIn.later {w w' : World} {a : Option Addr} {L : List Vs} (h : LIn w a L) (hb : Below w.heap.size w w') : LIn w' a L := by
  refine ⟨fun k v hk => ?_⟩
  obtain ⟨b, off, ma, mc, h1, h2, c0, c1, c2, c3, c4, s⟩ := h.get k v hk
  exact ⟨b, off, ma, mc, h1, Nat.lt_of_lt_of_le h2 hb.size, (hb.cell (p := ⟨b, _, none⟩) h2).trans c0, (hb.cell (p := ⟨b, _, none⟩) h2).trans c1, (hb.cell (p := ⟨b, _, none⟩) h2).trans c2, (hb.cell (p := ⟨b, _, none⟩) h2).trans c3, (hb.cell (p := ⟨b, _, none⟩) h2).trans c4, s.later hb⟩
theorem LIn.take {w : World} {a : Option Addr} {L : List Vs} (h : LIn w a L) (n : Nat) : LIn w a (L.take n) := ⟨fun k v hk => h.get k v (by
  by_cases hkn : k < n
  · rw [List.getElem?_take_of_lt hkn] at hk; exact hk
  · rw [List.getElem?_eq_none (by rw [List.length_take]; omega)] at hk; cases hk)⟩
/-- a slice of versions as it is told -/
structure Ls (w : World) (a : Option Addr) (cap : Nat) (L : List Vs) : Prop where
  at' : LIn w a L
  le : L.length ≤ cap
  max : cap ≤ 9223372036854775807
  nil : a = none → cap = 0
theorem Ls.later {w w' : World} {a : Option Addr} {cap : Nat} {L : List Vs} (h : Ls w a cap L) (hb : Below w.heap.size w w') : Ls w' a cap L := ⟨h.at'.later hb, h.le, h.max, h.nil⟩
theorem Ls.take {w : World} {a : Option Addr} {cap : Nat} {L : List Vs} (h : Ls w a cap L) (n : Nat) : Ls w a cap (L.take n) := ⟨h.at'.take n, Nat.le_trans (by rw [List.length_take]; omega) h.le, h.max, h.nil⟩
theorem Ls.none (w : World) : Ls w none 0 [] := ⟨⟨fun k v hk => by simp at hk⟩, Nat.le_refl _, by omega, fun _ => rfl⟩
def dropV (a : Option Addr) (cap n : Nat) : Option Addr := match a with
  | none => none
  | some ad => if cap - n = 0 then some ad else some (ad.add (n * 5))
theorem Ls.drop {w : World} {a : Option Addr} {cap : Nat} {L : List Vs} (h : Ls w a cap L) (n : Nat) (hn : n ≤ L.length) : Ls w (dropV a cap n) (cap - n) (L.drop n) := by
  refine ⟨⟨fun k p hk => ?_⟩, by rw [List.length_drop]; have := h.le; omega, by have := h.max; omega, ?_⟩
  · rw [List.getElem?_drop] at hk
    obtain ⟨b, off, ma, mc, rfl, h1, c0, c1, c2, c3, c4, s⟩ := h.at'.get _ _ hk
    have hlt : n + k < L.length := (List.getElem?_eq_some_iff.1 hk).1
    have hle := h.le
    have e : off + n * 5 + k * 5 = off + (n + k) * 5 := by omega
    refine ⟨b, off + n * 5, ma, mc, ?_, h1, by rw [e]; exact c0, by rw [e]; exact c1, by rw [e]; exact c2, by rw [e]; exact c3, by rw [e]; exact c4, s⟩
    show (if cap - n = 0 then _ else _) = _
    rw [if_neg (by omega), addr_add]
  · intro q
    cases a with
    | none => have := h.nil rfl; omega
    | some ad =>
      unfold dropV at q
      simp only at q
      split at q <;> cases q
/-- a row of versions of one's own, its pairs' rows too, no two of them one -/
structure Fo (base : Nat) (w : World) (v : Value) (R : List Rv) : Prop where
  own : w.ownsRow base 33 5 v R.length (rcells R)
  le : base ≤ w.heap.size
  met : ∀ (k : Nat) (r : Rv), R[k]? = some r → Ow base w r.mv (r.v.l ++ r.z)
  par : ∀ (j k : Nat) (r r' : Rv), ¬ j = k → R[j]? = some r → R[k]? = some r' → ∀ b, r.mv.ownBlock = some b → r'.mv.ownBlock ≠ some b
theorem _root_.Go.Proofs.YtkoaojhldcacbaaGreatDoor.Ow.type {base : Nat} {w : World} {v : Value} {l : List En} (h : Ow base w v l) {g : Nat} (hg : v.ownBlock = some g) : ∃ cs, w.heap[g]? = some (.cells cs 50 (0, 0)) := by
  rcases h.own.2 with ⟨e, h0⟩ | ⟨g', cap, cur, e, h2, h3, _⟩
  · subst e; cases hg
  · subst e
    have : g' = g := by simpa [Value.ownBlock] using hg
    subst this
    exact ⟨_, h3⟩
theorem own_type {base n : Nat} {w : World} {v : Value} {xs : List Value} {t : TypeId} {s : Nat} (h : w.ownsRow base t s v n xs) {g : Nat} (hg : v.ownBlock = some g) : ∃ cs, w.heap[g]? = some (.cells cs t (0, 0)) := by
  rcases h.2 with ⟨e, h0⟩ | ⟨g', cap, cur, e, h2, h3, _⟩
  · subst e; cases hg
  · subst e
    have : g' = g := by simpa [Value.ownBlock] using hg
    subst this
    exact ⟨_, h3⟩
theorem own_apart {base base' n m s s' : Nat} {w : World} {v v' : Value} {xs ys : List Value} {t t' : TypeId} (h : w.ownsRow base t s v n xs) (h' : w.ownsRow base' t' s' v' m ys) (ht : t ≠ t') {g : Nat} (hg : v.ownBlock = some g) : v'.ownBlock ≠ some g := fun q => by
  obtain ⟨c1, e1⟩ := own_type h hg
  obtain ⟨c2, e2⟩ := own_type h' q
  rw [e1] at e2
  injection e2 with e2
  injection e2 with _ e2
  exact ht e2
theorem own_same {base n s : Nat} {w w' : World} {v : Value} {xs : List Value} {t : TypeId} (h : w.ownsRow base t s v n xs) (hb : ∀ g, v.ownBlock = some g → w'.heap[g]? = w.heap[g]?) : w'.ownsRow base t s v n xs := by
  refine ⟨h.1, ?_⟩
  rcases h.2 with e | ⟨g, cap, cur, e, h2, h3, h4⟩
  · exact .inl e
  · exact .inr ⟨g, cap, cur, e, h2, by rw [hb g (by rw [e]; rfl)]; exact h3, h4⟩
theorem _root_.Go.Proofs.YtkoaojhldcacbaaGreatDoor.Ow.same {base : Nat} {w w' : World} {v : Value} {l : List En} (h : Ow base w v l) (hs : w.heap.size ≤ w'.heap.size) (hb : ∀ g, v.ownBlock = some g → w'.heap[g]? = w.heap[g]?) : Ow base w' v l := ⟨own_same h.own hb, Nat.le_trans h.le hs⟩
theorem Fo.nil (w : World) (base : Nat) (h : base ≤ w.heap.size) : Fo base w (.slice none 0 0) [] := ⟨World.ownsRow_nil _ _ _ _, h, fun k r h => by simp at h, fun j k r r' _ h => by simp at h⟩
theorem Fo.later {base : Nat} {w w' : World} {v : Value} {R : List Rv} (h : Fo base w v R) (hb : Below w.heap.size w w') : Fo base w' v R := ⟨own_later h.own hb, Nat.le_trans h.le hb.size, fun k r hk => (h.met k r hk).later hb, h.par⟩
theorem Fo.base {b b' : Nat} {w : World} {v : Value} {R : List Rv} (h : Fo b w v R) (hb : b' ≤ b) : Fo b' w v R := by
  refine ⟨⟨h.own.1, ?_⟩, Nat.le_trans hb h.le, fun k r hk => (h.met k r hk).base hb, h.par⟩
  rcases h.own.2 with e | ⟨g, cap, cur, e1, e2, e3⟩
  · exact Or.inl e
  · exact Or.inr ⟨g, cap, cur, e1, Nat.le_trans hb e2, e3⟩
theorem _root_.Go.Proofs.YtkoaojhldcacbaaGreatDoor.Ow.slPre {base : Nat} {w : World} {a : Option Addr} {n c : Nat} {l z : List En} (h : Ow base w (.slice a n c) (l ++ z)) : Sl w a c l := by
  obtain ⟨a', c', e, s⟩ := h.sl
  injection e with e1 e2 e3
  subst e1 e3
  have := s.take l.length
  rw [List.take_left] at this
  exact this
theorem Fo.ls {base : Nat} {w : World} {v : Value} {R : List Rv} (h : Fo base w v R) : ∃ a cap, v = .slice a R.length cap ∧ Ls w a cap (R.map (·.v)) := by
  rcases h.own.2 with ⟨rfl, h0⟩ | ⟨g, cap, cur, rfl, hg, hc, h1, h2, h3, h4⟩
  · have : R = [] := List.eq_nil_of_length_eq_zero h0
    subst this
    exact ⟨none, 0, rfl, Ls.none _⟩
  · refine ⟨_, _, rfl, ⟨fun k v hk => ?_⟩, by simpa using h1, h2, fun q => by cases q⟩
    rw [List.getElem?_map] at hk
    cases hq : R[k]? with
    | none => rw [hq] at hk; cases hk
    | some r =>
      rw [hq] at hk
      simp at hk
      subst hk
      have hkl : k < R.length := (List.getElem?_eq_some_iff.1 hq).1
      have hlt := (h.own.lt g rfl).2
      have hp : (rcells R).length = R.length * 5 := rcells_length R
      have hx : ∀ j, j < 5 → w.cell? ⟨g, k * 5 + j, none⟩ = (rcs r)[j]? := fun j hj => by rw [h.own.cellAt _ (by omega), rcells_get hq j hj]
      refine ⟨g, 0, r.a, r.c, rfl, hlt, ?_, ?_, ?_, ?_, ?_, (h.met k r hq).slPre⟩
      · rw [Nat.zero_add]; exact hx 0 (by omega)
      · rw [Nat.zero_add]; exact hx 1 (by omega)
      · rw [Nat.zero_add]; exact hx 2 (by omega)
      · rw [Nat.zero_add]; exact hx 3 (by omega)
      · rw [Nat.zero_add]; exact hx 4 (by omega)
/-- one more that may be put behind -/
structure Ad (base : Nat) (w : World) (v : Value) (R : List Rv) (r : Rv) : Prop where
  fo : Fo base w v R
  ow : Ow base w r.mv (r.v.l ++ r.z)
  ap : ∀ (k : Nat) (r' : Rv), R[k]? = some r' → ∀ b, r.mv.ownBlock = some b → r'.mv.ownBlock ≠ some b
theorem Fo.ad {base : Nat} {w w1 : World} {v : Value} {R : List Rv} {r : Rv} (h : Fo base w v R) (hb : Below w.heap.size w w1) (ho : Ow w.heap.size w1 r.mv (r.v.l ++ r.z)) : Ad base w1 v R r := by
  refine ⟨h.later hb, ho.base h.le, fun k r' hk b hr hr' => ?_⟩
  have h1 := (ho.own.lt b hr).1
  have h2 := ((h.met k r' hk).own.lt b hr').2
  omega
/-- a copy: a list of one's own, nothing behind its pairs -/
def Cp (base : Nat) (w : World) (v : Value) (L : List Vs) : Prop := ∃ R, Fo base w v R ∧ R.map (·.v) = L ∧ ∀ r ∈ R, r.z = []
theorem Cp.nil (w : World) (base : Nat) (h : base ≤ w.heap.size) : Cp base w (.slice none 0 0) [] := ⟨[], Fo.nil w base h, rfl, by simp⟩
theorem Cp.later {base : Nat} {w w' : World} {v : Value} {L : List Vs} (h : Cp base w v L) (hb : Below w.heap.size w w') : Cp base w' v L := by
  obtain ⟨R, h1, h2, h3⟩ := h
  exact ⟨R, h1.later hb, h2, h3⟩
theorem Cp.base {b b' : Nat} {w : World} {v : Value} {L : List Vs} (h : Cp b w v L) (hb : b' ≤ b) : Cp b' w v L := by
  obtain ⟨R, h1, h2, h3⟩ := h
  exact ⟨R, h1.base hb, h2, h3⟩
theorem Cp.ls {base : Nat} {w : World} {v : Value} {L : List Vs} (h : Cp base w v L) : ∃ a cap, v = .slice a L.length cap ∧ Ls w a cap L := by
  obtain ⟨R, h1, h2, h3⟩ := h
  obtain ⟨a, cap, e, s⟩ := h1.ls
  rw [h2] at s
  have : R.length = L.length := by rw [← h2, List.length_map]
  exact ⟨a, cap, by rw [e, this], s⟩
theorem Cp.le {base : Nat} {w : World} {v : Value} {L : List Vs} (h : Cp base w v L) : base ≤ w.heap.size := by
  obtain ⟨R, h1, h2, h3⟩ := h
  exact h1.le
end Go.Proofs.YtkoaojhldcacbaaGreatDoor.Stk
