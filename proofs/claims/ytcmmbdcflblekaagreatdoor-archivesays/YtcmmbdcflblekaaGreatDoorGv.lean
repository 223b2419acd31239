import Derived.Test.YtcmmbdcflblekaaGreatDoorGe
import Derived.Test.YtcmmbdcflblekaaGreatDoorGh
import Derived.Deep.RegionHeld3
/- Versions, stacks: no model here. -/
namespace Go.Proofs.YtcmmbdcflblekaaGreatDoor.Stk
set_option maxRecDepth 100000
set_option linter.unusedVariables false
set_option linter.unusedSimpArgs false
noncomputable def sv (v u : Vs) : Bool := by classical exact decide (v = u)
theorem sv_true {v u : Vs} (h : v = u) : sv v u = true := by unfold sv; simp [h]
theorem sv_false {v u : Vs} (h : ¬ v = u) : sv v u = false := by unfold sv; simp [h]
theorem sv_iff {v u : Vs} : sv v u = true ↔ v = u := by unfold sv; simp
noncomputable def svL (a b : List Vs) : Bool := by classical exact decide (a = b)
theorem svL_true {v u : List Vs} (h : v = u) : svL v u = true := by unfold svL; simp [h]
theorem svL_false {v u : List Vs} (h : ¬ v = u) : svL v u = false := by unfold svL; simp [h]
theorem svL_iff {v u : List Vs} : svL v u = true ↔ v = u := by unfold svL; simp
theorem takeV {α : Type} {l : List α} {k : Nat} {p : α} (h : l[k]? = some p) : l.take (k + 1) = l.take k ++ [p] := by rw [List.take_add_one, h]; rfl
theorem take_nextV {α : Type} {a b : List α} {k : Nat} {p : α} (hp : a[k]? = some p) (hq : b[k]? = some p) (h : a.take k = b.take k) : a.take (k + 1) = b.take (k + 1) := by
  rw [takeV hp, takeV hq, h]
theorem take_neV {α : Type} {a b : List α} {k : Nat} {p q : α} (hp : a[k]? = some p) (hq : b[k]? = some q) (h : ¬ p = q) : ¬ a = b := by
  rintro rfl
  rw [hp] at hq
  injection hq with hq
  exact h hq
/-- where the version with a number stands -/
def plc : List Vs → Int → Option Nat
  | [], _ => none
  | v :: L, s => if v.seq = s then some 0 else (plc L s).map (· + 1)
theorem plc_some : ∀ {L : List Vs} {s : Int} {k : Nat}, plc L s = some k → (∃ v, L[k]? = some v ∧ v.seq = s) ∧ ∀ j v, j < k → L[j]? = some v → ¬ v.seq = s
  | [], s, k, h => by simp [plc] at h
  | v :: L, s, k, h => by
    unfold plc at h
    split at h
    · rename_i hv
      injection h with h
      subst h
      exact ⟨⟨v, rfl, hv⟩, fun j u hj => by omega⟩
    · rename_i hv
      cases hq : plc L s with
      | none => rw [hq] at h; cases h
      | some m =>
        rw [hq] at h
        simp only [Option.map_some, Option.some.injEq] at h
        subst h
        obtain ⟨⟨u, h1, h2⟩, h3⟩ := plc_some hq
        refine ⟨⟨u, by simpa using h1, h2⟩, fun j x hj hx => ?_⟩
        cases j with
        | zero => simp at hx; subst hx; exact hv
        | succ j => exact h3 j x (by omega) (by simpa using hx)
theorem plc_none : ∀ {L : List Vs} {s : Int}, plc L s = none → ∀ v ∈ L, ¬ v.seq = s
  | [], s, h, v, hv => by simp at hv
  | u :: L, s, h, v, hv => by
    unfold plc at h
    split at h
    · cases h
    · rename_i hu
      have h' : plc L s = none := by simpa using h
      rcases List.mem_cons.1 hv with rfl | hv
      · exact hu
      · exact plc_none h' v hv
theorem plc_at : ∀ {L : List Vs} {s : Int} {k : Nat} {v : Vs}, L[k]? = some v → v.seq = s → (∀ j u, j < k → L[j]? = some u → ¬ u.seq = s) → plc L s = some k
  | [], s, k, v, h, _, _ => by simp at h
  | u :: L, s, 0, v, h, hv, _ => by
    simp at h; subst h
    unfold plc; rw [if_pos hv]
  | u :: L, s, k + 1, v, h, hv, hj => by
    unfold plc
    rw [if_neg (hj 0 u (by omega) rfl), plc_at (L := L) (k := k) (v := v) (by simpa using h) hv (fun j x hx hq => hj (j + 1) x (by omega) (by simpa using hq))]
    rfl
theorem plc_no {L : List Vs} {s : Int} (h : ∀ v ∈ L, ¬ v.seq = s) : plc L s = none := by
  cases hq : plc L s with
  | none => rfl
  | some k =>
    obtain ⟨⟨v, h1, h2⟩, _⟩ := plc_some hq
    exact absurd h2 (h v (List.mem_of_getElem? h1))
def plcI (L : List Vs) (s : Int) : Int := match plc L s with
  | none => -1
  | some k => (k : Int)
theorem plcI_some {L : List Vs} {s : Int} {k : Nat} (h : plc L s = some k) : plcI L s = (k : Int) := by unfold plcI; rw [h]
theorem plcI_none {L : List Vs} {s : Int} (h : plc L s = none) : plcI L s = -1 := by unfold plcI; rw [h]
/-- the newest one -/
def lastV (L : List Vs) : Option Vs := L.getLast?
theorem lastV_at {L : List Vs} (h : 0 < L.length) : ∃ v, L[L.length - 1]? = some v ∧ lastV L = some v := by
  have hne : L ≠ [] := by rintro rfl; simp at h
  refine ⟨L.getLast hne, ?_, List.getLast?_eq_some_getLast hne⟩
  rw [List.getLast_eq_getElem]
  exact List.getElem?_eq_getElem (by omega)
theorem lastV_nil : lastV [] = none := rfl
/-- what Push answers, in number -/
noncomputable def puE (L : List Vs) (v : Vs) : Int := by
  classical exact match lastV L with
  | none => if v.seq < 1 then 74 else 0
  | some u => if ¬ u.key = v.key then 61 else if v.seq < 1 ∨ v.seq ≤ u.seq then 74 else 0
noncomputable def puL (L : List Vs) (v : Vs) : List Vs := by
  classical exact if puE L v = 0 then L ++ [v] else []
def vs0 : Vs := ⟨[], 0, false, [], []⟩
/-- what Top answers -/
noncomputable def toE (L : List Vs) : Int := match lastV L with
  | none => 72
  | some u => if u.mkr = true then 73 else 0
noncomputable def toV (L : List Vs) : Vs := match lastV L with
  | none => vs0
  | some u => if u.mkr = true then vs0 else u
/-- what Get answers -/
def geE (L : List Vs) (s : Int) : Int := match plc L s with
  | none => 72
  | some _ => 0
def geV (L : List Vs) (s : Int) : Vs := match plc L s with
  | none => vs0
  | some k => L.getD k vs0
/-- what Remove answers -/
def rmL (L : List Vs) (s : Int) : List Vs := match plc L s with
  | none => []
  | some k => L.take k ++ L.drop (k + 1)
noncomputable def snc (L : List Vs) (m : Int) : List Vs := L.filter (fun v => decide (m ≤ v.seq))
theorem snc_yes {L : List Vs} {m : Int} {v : Vs} (h : m ≤ v.seq) : snc (L ++ [v]) m = snc L m ++ [v] := by simp [snc, h]
theorem snc_no {L : List Vs} {m : Int} {v : Vs} (h : ¬ m ≤ v.seq) : snc (L ++ [v]) m = snc L m := by simp [snc, h]
theorem snc_len (L : List Vs) (m : Int) : (snc L m).length ≤ L.length := List.length_filter_le _ _
/-- a row -/
structure Rw where
  key : List UInt8
  seq : Int
  mkr : Bool
  size : Int
def rwOf (v : Vs) : Rw := ⟨v.key, v.seq, v.mkr, (v.data.length : Int)⟩
def rwsL (L : List Vs) : List Rw := L.reverse.map rwOf
noncomputable def rwb (a b : List Rw) : Bool := by classical exact decide (a = b)
theorem rwb_true {v u : List Rw} (h : v = u) : rwb v u = true := by unfold rwb; simp [h]
theorem rwb_false {v u : List Rw} (h : ¬ v = u) : rwb v u = false := by unfold rwb; simp [h]
end Go.Proofs.YtcmmbdcflblekaaGreatDoor.Stk

/- Rows of versions: where they lie, one's own, what an append does to them. -/
namespace Go.Proofs.YtcmmbdcflblekaaGreatDoor.Stk
set_option maxRecDepth 100000
set_option linter.unusedVariables false
set_option linter.unusedSimpArgs false
open Go.RowKit
/-- a version's value -/
abbrev vv (key : List UInt8) (seq : Int) (mk : Bool) (data : List UInt8) (a : Option Addr) (n cap : Nat) : Value := .agg #[str key, .int .i64 seq, .bool mk, str data, .slice a n cap]
/-- a version that lies in memory: its pairs' row, and what stands behind them -/
structure Rv where
  v : Vs
  z : List En
  a : Option Addr
  c : Nat
def Rv.mv (r : Rv) : Value := .slice r.a (r.v.l.length + r.z.length) r.c
def rcs (r : Rv) : List Value := [str r.v.key, .int .i64 r.v.seq, .bool r.v.mkr, str r.v.data, .slice r.a r.v.l.length r.c]
def rcells (l : List Rv) : List Value := (l.map rcs).flatten
theorem rcells_append (a b : List Rv) : rcells (a ++ b) = rcells a ++ rcells b := by simp [rcells]
theorem rcells_length (l : List Rv) : (rcells l).length = l.length * 5 := by
  induction l with
  | nil => rfl
  | cons p l ih => simp [rcells, rcs] at ih ⊢; omega
theorem rcells_get {l : List Rv} {k : Nat} {p : Rv} (h : l[k]? = some p) (j : Nat) (hj : j < 5) : (rcells l)[k * 5 + j]? = (rcs p)[j]? := by
  obtain ⟨hk, he⟩ := List.getElem?_eq_some_iff.1 h
  have e : l = l.take k ++ (p :: l.drop (k + 1)) := by
    rw [← he, List.getElem_cons_drop]
    simp
  have e2 : rcells l = rcells (l.take k) ++ (rcs p ++ rcells (l.drop (k + 1))) := by
    conv => lhs; rw [e]
    rw [rcells_append]
    rfl
  have hl : (rcells (l.take k)).length = k * 5 := by rw [rcells_length, List.length_take]; omega
  rw [e2, List.getElem?_append_right (by omega), hl, show k * 5 + j - k * 5 = j by omega, List.getElem?_append_left (by simp [rcs]; omega)]
theorem rcells_one (l : List Rv) : ∀ u ∈ rcells l, u.oneCell' = true := by
  intro u hu
  unfold rcells at hu
  rw [List.mem_flatten] at hu
  obtain ⟨x, hx, hu⟩ := hu
  obtain ⟨p, _, rfl⟩ := List.mem_map.1 hx
  simp [rcs] at hu
  rcases hu with rfl | rfl | rfl | rfl | rfl <;> rfl
theorem infoVf : (Tryz.prog.info? 54).map (fun i => (i.zero, i.size, i.bytes)) = some (some (.agg #[.string ⟨#[]⟩, .int .i64 0, .bool false, .string ⟨#[]⟩, .slice none 0 0]), 5, 72) := by kernel_rfl
theorem infoV : ∃ i, Tryz.prog.info? 54 = some i ∧ i.zero = some (.agg #[.string ⟨#[]⟩, .int .i64 0, .bool false, .string ⟨#[]⟩, .slice none 0 0]) ∧ i.size = 5 ∧ i.bytes = 72 := by
  have := infoVf
  cases hq : Tryz.prog.info? 54 with
  | none => rw [hq] at this; cases this
  | some i => rw [hq] at this; simp at this; exact ⟨i, rfl, this.1, this.2.1, this.2.2⟩
/-- the versions that a slice holds -/
structure LIn (w : World) (a : Option Addr) (L : List Vs) : Prop where
  get : ∀ k v, L[k]? = some v → ∃ b off ma mc, a = some ⟨b, off, none⟩ ∧ b < w.heap.size ∧ w.cell? ⟨b, off + k * 5, none⟩ = some (str v.key) ∧ w.cell? ⟨b, off + k * 5 + 1, none⟩ = some (.int .i64 v.seq) ∧ w.cell? ⟨b, off + k * 5 + 2, none⟩ = some (.bool v.mkr) ∧ w.cell? ⟨b, off + k * 5 + 3, none⟩ = some (str v.data) ∧ w.cell? ⟨b, off + k * 5 + 4, none⟩ = some (.slice ma v.l.length mc) ∧ Sl w ma mc v.l
theorem LIn.later {w w' : World} {a : Option Addr} {L : List Vs} (h : LIn w a L) (hb : Below w.heap.size w w') : LIn w' a L := by
  refine ⟨fun k v hk => ?_⟩
  obtain ⟨b, off, ma, mc, h1, h2, c0, c1, c2, c3, c4, s⟩ := h.get k v hk
  exact ⟨b, off, ma, mc, h1, Nat.lt_of_lt_of_le h2 hb.size, (hb.cell (p := ⟨b, _, none⟩) h2).trans c0, (hb.cell (p := ⟨b, _, none⟩) h2).trans c1, (hb.cell (p := ⟨b, _, none⟩) h2).trans c2, (hb.cell (p := ⟨b, _, none⟩) h2).trans c3, (hb.cell (p := ⟨b, _, none⟩) h2).trans c4, s.later hb⟩
theorem LIn.take {w : World} {a : Option Addr} {L : List Vs} (h : LIn w a L) (n : Nat) : LIn w a (L.take n) := ⟨fun k v hk => h.get k v (by
  by_cases hkn : k < n
  · rw [List.getElem?_take_of_lt hkn] at hk; exact hk
  · rw [List.getElem?_eq_none (by rw [List.length_take]; omega)] at hk; cases hk)⟩
/-- a slice of versions as it is told -/
structure Ls (w : World) (a : Option Addr) (cap : Nat) (L : List Vs) : Prop where
  at' : LIn w a L
  le : L.length ≤ cap
  max : cap ≤ 9223372036854775807
  nil : a = none → cap = 0
theorem Ls.later {w w' : World} {a : Option Addr} {cap : Nat} {L : List Vs} (h : Ls w a cap L) (hb : Below w.heap.size w w') : Ls w' a cap L := ⟨h.at'.later hb, h.le, h.max, h.nil⟩
theorem Ls.take {w : World} {a : Option Addr} {cap : Nat} {L : List Vs} (h : Ls w a cap L) (n : Nat) : Ls w a cap (L.take n) := ⟨h.at'.take n, Nat.le_trans (by rw [List.length_take]; omega) h.le, h.max, h.nil⟩
theorem Ls.none (w : World) : Ls w none 0 [] := ⟨⟨fun k v hk => by simp at hk⟩, Nat.le_refl _, by omega, fun _ => rfl⟩
def dropV (a : Option Addr) (cap n : Nat) : Option Addr := match a with
  | none => none
  | some ad => if cap - n = 0 then some ad else some (ad.add (n * 5))
theorem Ls.drop {w : World} {a : Option Addr} {cap : Nat} {L : List Vs} (h : Ls w a cap L) (n : Nat) (hn : n ≤ L.length) : Ls w (dropV a cap n) (cap - n) (L.drop n) := by
  refine ⟨⟨fun k p hk => ?_⟩, by rw [List.length_drop]; have := h.le; omega, by have := h.max; omega, ?_⟩
  · rw [List.getElem?_drop] at hk
    obtain ⟨b, off, ma, mc, rfl, h1, c0, c1, c2, c3, c4, s⟩ := h.at'.get _ _ hk
    have hlt : n + k < L.length := (List.getElem?_eq_some_iff.1 hk).1
    have hle := h.le
    have e : off + n * 5 + k * 5 = off + (n + k) * 5 := by omega
    refine ⟨b, off + n * 5, ma, mc, ?_, h1, by rw [e]; exact c0, by rw [e]; exact c1, by rw [e]; exact c2, by rw [e]; exact c3, by rw [e]; exact c4, s⟩
    show (if cap - n = 0 then _ else _) = _
    rw [if_neg (by omega), addr_add]
  · intro q
    cases a with
    | none => have := h.nil rfl; omega
    | some ad =>
      unfold dropV at q
      simp only at q
      split at q <;> cases q
/-- a row of versions of one's own, its pairs' rows too, no two of them one -/
structure Fo (base : Nat) (w : World) (v : Value) (R : List Rv) : Prop where
  own : w.ownsRow base 54 5 v R.length (rcells R)
  le : base ≤ w.heap.size
  met : ∀ (k : Nat) (r : Rv), R[k]? = some r → Ow base w r.mv (r.v.l ++ r.z)
  par : ∀ (j k : Nat) (r r' : Rv), ¬ j = k → R[j]? = some r → R[k]? = some r' → ∀ b, r.mv.ownBlock = some b → r'.mv.ownBlock ≠ some b
theorem _root_.Go.Proofs.YtcmmbdcflblekaaGreatDoor.Ow.type {base : Nat} {w : World} {v : Value} {l : List En} (h : Ow base w v l) {g : Nat} (hg : v.ownBlock = some g) : ∃ cs, w.heap[g]? = some (.cells cs 49 (0, 0)) := by
  rcases h.own.2 with ⟨e, h0⟩ | ⟨g', cap, cur, e, h2, h3, _⟩
  · subst e; cases hg
  · subst e
    have : g' = g := by simpa [Value.ownBlock] using hg
    subst this
    exact ⟨_, h3⟩
theorem own_type {base n : Nat} {w : World} {v : Value} {xs : List Value} {t : TypeId} {s : Nat} (h : w.ownsRow base t s v n xs) {g : Nat} (hg : v.ownBlock = some g) : ∃ cs, w.heap[g]? = some (.cells cs t (0, 0)) := by
  rcases h.2 with ⟨e, h0⟩ | ⟨g', cap, cur, e, h2, h3, _⟩
  · subst e; cases hg
  · subst e
    have : g' = g := by simpa [Value.ownBlock] using hg
    subst this
    exact ⟨_, h3⟩
theorem own_apart {base base' n m s s' : Nat} {w : World} {v v' : Value} {xs ys : List Value} {t t' : TypeId} (h : w.ownsRow base t s v n xs) (h' : w.ownsRow base' t' s' v' m ys) (ht : t ≠ t') {g : Nat} (hg : v.ownBlock = some g) : v'.ownBlock ≠ some g := fun q => by
  obtain ⟨c1, e1⟩ := own_type h hg
  obtain ⟨c2, e2⟩ := own_type h' q
  rw [e1] at e2
  injection e2 with e2
  injection e2 with _ e2
  exact ht e2
theorem own_same {base n s : Nat} {w w' : World} {v : Value} {xs : List Value} {t : TypeId} (h : w.ownsRow base t s v n xs) (hb : ∀ g, v.ownBlock = some g → w'.heap[g]? = w.heap[g]?) : w'.ownsRow base t s v n xs := by
  refine ⟨h.1, ?_⟩
  rcases h.2 with e | ⟨g, cap, cur, e, h2, h3, h4⟩
  · exact .inl e
  · exact .inr ⟨g, cap, cur, e, h2, by rw [hb g (by rw [e]; rfl)]; exact h3, h4⟩
theorem _root_.Go.Proofs.YtcmmbdcflblekaaGreatDoor.Ow.same {base : Nat} {w w' : World} {v : Value} {l : List En} (h : Ow base w v l) (hs : w.heap.size ≤ w'.heap.size) (hb : ∀ g, v.ownBlock = some g → w'.heap[g]? = w.heap[g]?) : Ow base w' v l := ⟨own_same h.own hb, Nat.le_trans h.le hs⟩
theorem Fo.nil (w : World) (base : Nat) (h : base ≤ w.heap.size) : Fo base w (.slice none 0 0) [] := ⟨World.ownsRow_nil _ _ _ _, h, fun k r h => by simp at h, fun j k r r' _ h => by simp at h⟩
theorem Fo.later {base : Nat} {w w' : World} {v : Value} {R : List Rv} (h : Fo base w v R) (hb : Below w.heap.size w w') : Fo base w' v R := ⟨own_later h.own hb, Nat.le_trans h.le hb.size, fun k r hk => (h.met k r hk).later hb, h.par⟩
theorem Fo.base {b b' : Nat} {w : World} {v : Value} {R : List Rv} (h : Fo b w v R) (hb : b' ≤ b) : Fo b' w v R := by
  refine ⟨⟨h.own.1, ?_⟩, Nat.le_trans hb h.le, fun k r hk => (h.met k r hk).base hb, h.par⟩
  rcases h.own.2 with e | ⟨g, cap, cur, e1, e2, e3⟩
  · exact Or.inl e
  · exact Or.inr ⟨g, cap, cur, e1, Nat.le_trans hb e2, e3⟩
theorem _root_.Go.Proofs.YtcmmbdcflblekaaGreatDoor.Ow.slPre {base : Nat} {w : World} {a : Option Addr} {n c : Nat} {l z : List En} (h : Ow base w (.slice a n c) (l ++ z)) : Sl w a c l := by
  obtain ⟨a', c', e, s⟩ := h.sl
  injection e with e1 e2 e3
  subst e1 e3
  have := s.take l.length
  rw [List.take_left] at this
  exact this
theorem Fo.ls {base : Nat} {w : World} {v : Value} {R : List Rv} (h : Fo base w v R) : ∃ a cap, v = .slice a R.length cap ∧ Ls w a cap (R.map (·.v)) := by
  rcases h.own.2 with ⟨rfl, h0⟩ | ⟨g, cap, cur, rfl, hg, hc, h1, h2, h3, h4⟩
  · have : R = [] := List.eq_nil_of_length_eq_zero h0
    subst this
    exact ⟨none, 0, rfl, Ls.none _⟩
  · refine ⟨_, _, rfl, ⟨fun k v hk => ?_⟩, by simpa using h1, h2, fun q => by cases q⟩
    rw [List.getElem?_map] at hk
    cases hq : R[k]? with
    | none => rw [hq] at hk; cases hk
    | some r =>
      rw [hq] at hk
      simp at hk
      subst hk
      have hkl : k < R.length := (List.getElem?_eq_some_iff.1 hq).1
      have hlt := (h.own.lt g rfl).2
      have hp : (rcells R).length = R.length * 5 := rcells_length R
      have hx : ∀ j, j < 5 → w.cell? ⟨g, k * 5 + j, none⟩ = (rcs r)[j]? := fun j hj => by rw [h.own.cellAt _ (by omega), rcells_get hq j hj]
      refine ⟨g, 0, r.a, r.c, rfl, hlt, ?_, ?_, ?_, ?_, ?_, (h.met k r hq).slPre⟩
      · rw [Nat.zero_add]; exact hx 0 (by omega)
      · rw [Nat.zero_add]; exact hx 1 (by omega)
      · rw [Nat.zero_add]; exact hx 2 (by omega)
      · rw [Nat.zero_add]; exact hx 3 (by omega)
      · rw [Nat.zero_add]; exact hx 4 (by omega)
/-- one more that may be put behind -/
structure Ad (base : Nat) (w : World) (v : Value) (R : List Rv) (r : Rv) : Prop where
  fo : Fo base w v R
  ow : Ow base w r.mv (r.v.l ++ r.z)
  ap : ∀ (k : Nat) (r' : Rv), R[k]? = some r' → ∀ b, r.mv.ownBlock = some b → r'.mv.ownBlock ≠ some b
theorem Fo.ad {base : Nat} {w w1 : World} {v : Value} {R : List Rv} {r : Rv} (h : Fo base w v R) (hb : Below w.heap.size w w1) (ho : Ow w.heap.size w1 r.mv (r.v.l ++ r.z)) : Ad base w1 v R r := by
  refine ⟨h.later hb, ho.base h.le, fun k r' hk b hr hr' => ?_⟩
  have h1 := (ho.own.lt b hr).1
  have h2 := ((h.met k r' hk).own.lt b hr').2
  omega
/-- one version behind one's own -/
theorem app_v {ops : Array Oper} {rest : List Oper} {o : Oper} {a : Act} {Q : Exit → Act → World → Prop} {W : World} (hgd : o.guard = none) (s x : Operand) (ho : o.op = .call { callee := .builtin .append, args := #[s, x], argTypes := #[22, 22] })
    {base : Nat} {w : World} {v : Value} {R : List Rv} {g : Nat} (r : Rv) (hW : W = w.alloc (.cells (rcs r).toArray 54)) (hA : Ad base w v R r) (hg : g = w.heap.size) (hn : R.length ≤ 1954687338260)
    (hs : a.eval s = v) (hx : a.eval x = .slice (some ⟨g, 0, none⟩) 1 1)
    (h : ∀ g' cap w', Fo base w' (.slice (some ⟨g', 0, none⟩) (R.length + 1) cap) (R ++ [r]) → Below base w w' → (∀ k, k < w.heap.size → v.ownBlock ≠ some k → w'.heap[k]? = w.heap[k]?) → (v.ownBlock = some g' ∨ w.heap.size ≤ g') → wpList Tryz.prog ops Q rest (a.put o.dst (.slice (some ⟨g', 0, none⟩) (R.length + 1) cap)) w') :
    wpList Tryz.prog ops Q (o :: rest) a W := by
  obtain ⟨i0, hi0, hz0, hz1, hz2⟩ := infoV
  subst hW hg
  have hm : maxLen = 9223372036854775807 := rfl
  have hO := hA.fo
  refine wpList_append_lies _ hgd s x 22 ho base 54 i0 _ 5 72 Tryz.underlying22 hi0 hz0 hz1 hz2 rfl (by omega) v R.length (rcells R) hs (hO.own.alloc _) _ 1 1 (rcs r) hx rfl
    (World.news_of_block (cs := (rcs r).toArray) (t := 54) (fr := (0, 0)) (heap_alloc_new w _)) (by simp [rcs, Value.oneCell']) (by omega) (by rw [hm]; omega) (by omega) (by have := hO.le; simp; omega) _ rfl ?_
  intro g2 cap2 w' hown hgrow hat hlt
  have hk : ∀ k, k < w.heap.size → v.ownBlock ≠ some k → w'.heap[k]? = w.heap[k]? := fun k hk hne => by rw [hgrow.block k (by simp; omega) (Ne.symm hne), heap_alloc_old _ _ hk]
  have hsz : w.heap.size ≤ w'.heap.size := by have := hgrow.size; simp at this; omega
  have hmk : ∀ x l, Ow base w x l → Ow base w' x l := fun x l hx => hx.same hsz (fun g hg => hk g (hx.own.lt g hg).2 (fun q => own_apart hx.own hO.own (by decide) hg q))
  refine h g2 cap2 w' ⟨?_, ?_, ?_, ?_⟩ ?_ hk ?_
  · rw [rcells_append, List.length_append]
    have : rcells [r] = rcs r := by simp [rcells]
    rw [this]; exact hown
  · have := hO.le; omega
  · intro k q hq
    by_cases hkl : k < R.length
    · rw [List.getElem?_append_left hkl] at hq
      exact hmk _ _ (hO.met k q hq)
    · have hkl' : k = R.length := by
        have := (List.getElem?_eq_some_iff.1 hq).1
        simp at this; omega
      subst hkl'
      simp at hq
      subst hq
      exact hmk _ _ hA.ow
  · intro j k q q' hjk hj hk' b hb
    by_cases hjl : j < R.length
    · rw [List.getElem?_append_left hjl] at hj
      by_cases hkl : k < R.length
      · rw [List.getElem?_append_left hkl] at hk'
        exact hO.par j k q q' hjk hj hk' b hb
      · have hkl' : k = R.length := by
          have := (List.getElem?_eq_some_iff.1 hk').1
          simp at this; omega
        subst hkl'
        simp at hk'
        subst hk'
        exact fun q2 => hA.ap j q hj b q2 hb
    · have hjl' : j = R.length := by
        have := (List.getElem?_eq_some_iff.1 hj).1
        simp at this; omega
      subst hjl'
      simp at hj
      subst hj
      have hkl : k < R.length := by
        have := (List.getElem?_eq_some_iff.1 hk').1
        simp at this; omega
      rw [List.getElem?_append_left hkl] at hk'
      exact hA.ap k q' hk' b hb
  · exact ((Below.refl _ _).alloc hO.le _).trans (grown_below (hO.own.alloc _) (by have := hO.le; simp; omega) hgrow)
  · rcases hat with q | q
    · exact .inl q
    · right; simp at q; omega
/-- a copy: a list of one's own, nothing behind its pairs -/
def Cp (base : Nat) (w : World) (v : Value) (L : List Vs) : Prop := ∃ R, Fo base w v R ∧ R.map (·.v) = L ∧ ∀ r ∈ R, r.z = []
theorem Cp.nil (w : World) (base : Nat) (h : base ≤ w.heap.size) : Cp base w (.slice none 0 0) [] := ⟨[], Fo.nil w base h, rfl, by simp⟩
theorem Cp.later {base : Nat} {w w' : World} {v : Value} {L : List Vs} (h : Cp base w v L) (hb : Below w.heap.size w w') : Cp base w' v L := by
  obtain ⟨R, h1, h2, h3⟩ := h
  exact ⟨R, h1.later hb, h2, h3⟩
theorem Cp.base {b b' : Nat} {w : World} {v : Value} {L : List Vs} (h : Cp b w v L) (hb : b' ≤ b) : Cp b' w v L := by
  obtain ⟨R, h1, h2, h3⟩ := h
  exact ⟨R, h1.base hb, h2, h3⟩
theorem Cp.ls {base : Nat} {w : World} {v : Value} {L : List Vs} (h : Cp base w v L) : ∃ a cap, v = .slice a L.length cap ∧ Ls w a cap L := by
  obtain ⟨R, h1, h2, h3⟩ := h
  obtain ⟨a, cap, e, s⟩ := h1.ls
  rw [h2] at s
  have : R.length = L.length := by rw [← h2, List.length_map]
  exact ⟨a, cap, by rw [e, this], s⟩
theorem Cp.le {base : Nat} {w : World} {v : Value} {L : List Vs} (h : Cp base w v L) : base ≤ w.heap.size := by
  obtain ⟨R, h1, h2, h3⟩ := h
  exact h1.le
/-- one version more in a copy: its pairs' row was made since -/
theorem app_cp {ops : Array Oper} {rest : List Oper} {o : Oper} {a : Act} {Q : Exit → Act → World → Prop} {W : World} (hgd : o.guard = none) (s x : Operand) (ho : o.op = .call { callee := .builtin .append, args := #[s, x], argTypes := #[22, 22] })
    {base : Nat} {w w1 : World} {v : Value} {L : List Vs} {g : Nat} (u : Vs) {ma : Option Addr} {mn mc : Nat} (hu : mn = u.l.length) (hW : W = w1.alloc (.cells #[str u.key, .int .i64 u.seq, .bool u.mkr, str u.data, .slice ma mn mc] 54)) (hC : Cp base w v L) (hb : Below w.heap.size w w1) (hm : Ow w.heap.size w1 (.slice ma mn mc) u.l) (hg : g = w1.heap.size) (hn : L.length ≤ 1954687338260)
    (hs : a.eval s = v) (hx : a.eval x = .slice (some ⟨g, 0, none⟩) 1 1)
    (h : ∀ v' w', Cp base w' v' (L ++ [u]) → Below base w w' → wpList Tryz.prog ops Q rest (a.put o.dst v') w') :
    wpList Tryz.prog ops Q (o :: rest) a W := by
  obtain ⟨R, h1, h2, h3⟩ := hC
  subst hu
  have hl : R.length = L.length := by rw [← h2, List.length_map]
  have hA : Ad base w1 v R ⟨u, [], ma, mc⟩ := h1.ad hb (by simpa [Rv.mv] using hm)
  refine app_v hgd s x ho ⟨u, [], ma, mc⟩ hW hA hg (by omega) hs hx ?_
  intro g' cap w' f b _ _
  refine h _ w' ⟨_, f, by rw [List.map_append, h2]; rfl, ?_⟩ ((hb.mono h1.le).trans b)
  intro r hr
  rcases List.mem_append.1 hr with q | q
  · exact h3 r q
  · simp at q; subst q; rfl
end Go.Proofs.YtcmmbdcflblekaaGreatDoor.Stk
