import Derived.Test.YtkoaojhldcacbaaGreatDoorRc
import Derived.Test.YtkoaojhldcacbaaGreatDoorGw
/- The document's Read, as a function of the text; of a manifest's own text it is that manifest. No model. -/
namespace Go.Proofs.YtkoaojhldcacbaaGreatDoor
set_option maxRecDepth 100000
set_option linter.unusedVariables false
set_option linter.unusedSimpArgs false
open Go.Lib (decDigits)
open Go.Proofs.YtkoaojhldcacbaaGreatDoorP (recd Rd key nn LEN)
open Go.Proofs.YtkoaojhldcacbaaGreatDoorH (hexL pv okL pz)
/-- of digits; what isn't one is 0 -/
def nq : List UInt8 → Nat → Nat
  | [], n => n
  | c :: r, n => if c.toNat < 48 ∨ 57 < c.toNat ∨ 1099511627776 < n then 0 else nq r (n * 10 + (c.toNat - 48))
abbrev zg : Nat → UInt8 := fun _ => 0
/-- the last one changed -/
def mL (l : List It) (f : It → It) : List It := l.dropLast ++ (l.getLast?.map f).toList
theorem mL_snoc (L : List It) (x : It) (f : It → It) : mL (L ++ [x]) f = L ++ [f x] := by simp [mL]
/-- one record is taken -/
noncomputable def stp (m : Ma) (q : Kv) : Option Ma :=
  if q.1 = sNext then some { m with next := (nq q.2 0 : Nat) }
  else if q.1 = sSince then some { m with since := (nq q.2 0 : Nat) }
  else if q.1 = sKey then (if 256 < m.items.length then none else some { m with items := m.items ++ [⟨q.2, 0, false, 0, [], zg⟩] })
  else if m.items = [] then some m
  else if q.1 = sSeq then some { m with items := mL m.items fun x => { x with seq := (nq q.2 0 : Nat) } }
  else if q.1 = sType then some { m with items := mL m.items fun x => { x with mkr := q.2 == sMarker } }
  else if q.1 = sSize then some { m with items := mL m.items fun x => { x with size := (nq q.2 0 : Nat) } }
  else if q.1 = sLeaf then some { m with items := mL m.items fun x => { x with g := cut32 (pz q.2) } }
  else if 5 < q.1.length ∧ q.1.take 5 = sMeta then some { m with items := mL m.items fun x => { x with l := x.l ++ [⟨q.1.drop 5, q.2⟩] } }
  else some m
end Go.Proofs.YtkoaojhldcacbaaGreatDoor

/- The document's Read: what is kept. -/
namespace Go.Proofs.YtkoaojhldcacbaaGreatDoor
set_option maxRecDepth 100000
set_option linter.unusedVariables false
set_option linter.unusedSimpArgs false
open Go.RowKit
open Go.Proofs.YtkoaojhldcacbaaGreatDoorH (hv hv_length hv_one hv_eq lay lay_get lay_size heap_setCells there_of_row)
theorem own_cellT {w : World} {base g cap n s : Nat} {t : TypeId} {xs : List Value} (h : w.ownsRow base t s (.slice (some ⟨g, 0, none⟩) n cap) n xs) (j : Nat) (u : Value) : (w.setCell ⟨g, j, none⟩ u).ownsRow base t s (.slice (some ⟨g, 0, none⟩) n cap) n (xs.set j u) := by
  refine ⟨by rw [List.length_set]; exact h.1, ?_⟩
  rcases h.2 with ⟨e, _⟩ | ⟨g', cap', cur, e, h2, h3, h4, h5, h6, h7⟩
  · cases e
  · injection e with e1 e2 e3
    injection e1 with e1
    injection e1 with e1
    subst e1 e3
    refine Or.inr ⟨g, cap, _, rfl, h2, heap_setCell_same _ _ _ _ _ _ h3, h4, h5, by rw [Array.size_setIfInBounds]; exact h6, ?_⟩
    rw [Array.toList_setIfInBounds, ← h7, List.take_set]
def layL : List Value → Nat → List Value → List Value
  | xs, _, [] => xs
  | xs, o, v :: r => layL (xs.set o v) (o + 1) r
theorem own_cellsT {base g cap n s : Nat} {t : TypeId} : ∀ (vs : List Value) (o : Nat) {w : World} {xs : List Value}, w.ownsRow base t s (.slice (some ⟨g, 0, none⟩) n cap) n xs → (w.setCells g o vs).ownsRow base t s (.slice (some ⟨g, 0, none⟩) n cap) n (layL xs o vs)
  | [], _, _, _, h => h
  | v :: r, o, _, _, h => own_cellsT r (o + 1) (own_cellT h o v)
theorem layL_mid : ∀ (vs B A C : List Value), B.length = vs.length → layL (A ++ B ++ C) A.length vs = A ++ vs ++ C
  | [], [], A, C, _ => rfl
  | v :: vs, b :: B, A, C, h => by
    have h2 : (A ++ b :: B ++ C).set A.length v = (A ++ [v]) ++ B ++ C := by simp
    have := layL_mid vs B (A ++ [v]) C (by simpa using h)
    rw [List.length_append, List.length_singleton] at this
    show layL ((A ++ b :: B ++ C).set A.length v) (A.length + 1) vs = _
    rw [h2, this]
    simp
theorem rics_last (R : List Ri) (r r' : Ri) (j : Nat) (x : Value) (hj : j < 37) (h : ri r' = (ri r).set j x) : rics (R ++ [r']) = (rics (R ++ [r])).set (R.length * 37 + j) x := by
  rw [rics_append, rics_append, rics_one', rics_one', h, ← rics_len R, List.set_append_right _ _ (by omega)]
  congr 2
  omega
theorem rics_hash (R : List Ri) (x : It) (a : Option Addr) (c : Nat) (f : Nat → UInt8) : rics (R ++ [({ x with g := f }, a, c)]) = layL (rics (R ++ [(x, a, c)])) (R.length * 37 + 5) (hv f) := by
  have e : ∀ g : Nat → UInt8, rics (R ++ [({ x with g := g }, a, c)]) = (rics R ++ [str x.key, .int .i64 x.seq, .bool x.mkr, .int .i64 x.size, .slice a x.l.length c]) ++ hv g ++ [] := fun g => by
    rw [rics_append, rics_one']
    unfold ri ic
    simp
  have e2 : R.length * 37 + 5 = (rics R ++ [str x.key, .int .i64 x.seq, .bool x.mkr, .int .i64 x.size, .slice a x.l.length c]).length := by rw [List.length_append, rics_len]; rfl
  have h0 : rics (R ++ [(x, a, c)]) = _ := e x.g
  rw [e f, h0, e2, layL_mid _ _ _ _ (by rw [hv_length, hv_length])]
/-- what is kept while the records are taken -/
structure QS (W w : World) (m : Ma) (v : Value) (R : List Ri) : Prop where
  g0 : Bn3 w W.heap.size 0 0 (.slice none 0 0)
  g1 : Bn3 w (W.heap.size + 1) m.since m.next v
  own : w.ownsRow (W.heap.size + 2) 82 37 v R.length (rics R)
  le : W.heap.size + 2 ≤ w.heap.size
  met : ∀ (k : Nat) (r : Ri), R[k]? = some r → Ow (W.heap.size + 2) w r.mv r.1.l
  par : ∀ (j k : Nat) (r r' : Ri), ¬ j = k → R[j]? = some r → R[k]? = some r' → ∀ b, r.mv.ownBlock = some b → r'.mv.ownBlock ≠ some b
  bel : Below W.heap.size W w
  it : R.map (·.1) = m.items
theorem QS.start (W : World) : QS W ((W.alloc (.cells #[.int .i64 0, .int .i64 0, .slice none 0 0] 61)).alloc (.cells #[.int .i64 0, .int .i64 0, .slice none 0 0] 61)) ⟨0, 0, []⟩ (.slice none 0 0) [] := by
  have b0 := (Below.refl W.heap.size W).alloc (Nat.le_refl _) (.cells #[.int .i64 0, .int .i64 0, .slice none 0 0] 61)
  have b1 := b0.alloc b0.size (.cells #[.int .i64 0, .int .i64 0, .slice none 0 0] 61)
  refine ⟨(Bn3.new W 0 0 (.slice none 0 0)).later ((Below.refl _ _).alloc (Nat.le_refl _) _), ?_, World.ownsRow_nil _ _ _ _, by simp, fun k r h => by simp at h, fun j k r r' _ h => by simp at h, b1, rfl⟩
  have := Bn3.new (W.alloc (.cells #[.int .i64 0, .int .i64 0, .slice none 0 0] 61)) 0 0 (.slice none 0 0)
  rw [World.size_alloc] at this
  exact this
section
variable {W w w' : World} {m : Ma} {v v' : Value} {R : List Ri}
theorem QS.later (h : QS W w m v R) (hb : Below w.heap.size w w') : QS W w' m v R :=
  ⟨h.g0.later hb, h.g1.later hb, own_later h.own hb, Nat.le_trans h.le hb.size, fun k r hr => (h.met k r hr).later hb, h.par, h.bel.trans (hb.mono h.bel.size), h.it⟩
theorem QS.setM (h : QS W w m v R) (j : Nat) (x : Value) {s n : Int} (hm : Bn3 (w.setCell ⟨W.heap.size + 1, j, none⟩ x) (W.heap.size + 1) s n v) : QS W (w.setCell ⟨W.heap.size + 1, j, none⟩ x) ⟨s, n, m.items⟩ v R := by
  have hk : ∀ k, W.heap.size + 2 ≤ k → (w.setCell ⟨W.heap.size + 1, j, none⟩ x).heap[k]? = w.heap[k]? := fun k hk => hso _ _ (by omega)
  exact ⟨h.g0.oth (hso _ _ (by omega)), hm, own_keep h.own (fun g hg => hk g (h.own.lt g hg).1), by simpa using h.le, fun k r hr => (h.met k r hr).stay (by simp) (fun g hg => hk g ((h.met k r hr).own.lt g hg).1), h.par, h.bel.setCell (p := ⟨W.heap.size + 1, j, none⟩) (Nat.le_succ _) _, h.it⟩
theorem QS.next (h : QS W w m v R) (n : Int) : QS W (w.setCell ⟨W.heap.size + 1, 1, none⟩ (.int .i64 n)) { m with next := n } v R := h.setM 1 _ (by unfold Bn3; rw [heap_setCell_same _ _ _ _ _ _ h.g1]; rfl)
theorem QS.since (h : QS W w m v R) (n : Int) : QS W (w.setCell ⟨W.heap.size + 1, 0, none⟩ (.int .i64 n)) { m with since := n } v R := h.setM 0 _ (by unfold Bn3; rw [heap_setCell_same _ _ _ _ _ _ h.g1]; rfl)
/-- one item more -/
theorem QS.more (h : QS W w m v R) (x : It) (hx : x.l = []) (hn : R.length ≤ 1954687338240) :
    ∃ g' c' w', (∀ ty, (Builtin.append_ #[59, 59] ty #[v, .slice (some ⟨w.heap.size, 0, none⟩) 1 1]).run Tryz.prog (w.alloc (.cells (ic x none 0).toArray 82)) = .ok (.slice (some ⟨g', 0, none⟩) (R.length + 1) c') w') ∧ Bn3 w' (W.heap.size + 1) m.since m.next v ∧ QS W (w'.setCell ⟨W.heap.size + 1, 2, none⟩ (.slice (some ⟨g', 0, none⟩) (R.length + 1) c')) { m with items := m.items ++ [x] } (.slice (some ⟨g', 0, none⟩) (R.length + 1) c') (R ++ [(x, none, 0)]) := by
  obtain ⟨g', c', w', hr, hown, h2, hk⟩ := run_rqK (x, none, 0) h.own (Nat.le_trans (Nat.le_refl _) h.le) hn
  have hsz := h2.size
  have hle := h.le
  have e2 : Bn3 w' (W.heap.size + 1) m.since m.next v := h.g1.oth (h2.block _ (by omega))
  have hms : ∀ (k : Nat) (r : Ri), R[k]? = some r → Ow (W.heap.size + 2) (w'.setCell ⟨W.heap.size + 1, 2, none⟩ (.slice (some ⟨g', 0, none⟩) (R.length + 1) c')) r.mv r.1.l := fun k r hr => by
    have hq := h.met k r hr
    refine hq.stay (by simpa using hsz) (fun g hg => ?_)
    have h3 := hq.own.lt g hg
    rw [hso _ _ (by omega)]
    exact hk g h3.2 (own_apart hq.own h.own (by decide) hg)
  refine ⟨g', c', w', hr, e2, ⟨h.g0.oth ((hso _ _ (by omega)).trans (h2.block _ (by omega))), by unfold Bn3; rw [heap_setCell_same _ _ _ _ _ _ e2]; rfl, ?_, by simpa using Nat.le_trans h.le hsz, ?_, ?_, (h.bel.trans (h2.mono (by omega))).setCell (p := ⟨W.heap.size + 1, 2, none⟩) (Nat.le_succ _) _, ?_⟩⟩
  · have := own_keep (w' := w'.setCell ⟨W.heap.size + 1, 2, none⟩ (.slice (some ⟨g', 0, none⟩) (R.length + 1) c')) hown (fun g hg => hso _ _ (by have := (hown.lt g hg).1; omega))
    simpa using this
  · intro k r hr
    by_cases hkl : k < R.length
    · rw [List.getElem?_append_left hkl] at hr
      exact hms k r hr
    · have hkl' : k = R.length := by
        have := (List.getElem?_eq_some_iff.1 hr).1
        simp at this; omega
      subst hkl'
      simp at hr
      subst hr
      show Ow _ _ (.slice none x.l.length 0) x.l
      rw [hx]
      exact Ow.nil _ _ (by simpa using Nat.le_trans h.le hsz)
  · intro j k r r' hjk hj hk' b hb hb'
    by_cases hjl : j < R.length
    · rw [List.getElem?_append_left hjl] at hj
      by_cases hkl : k < R.length
      · rw [List.getElem?_append_left hkl] at hk'
        exact h.par j k r r' hjk hj hk' b hb hb'
      · have hkl' : k = R.length := by
          have := (List.getElem?_eq_some_iff.1 hk').1
          simp at this; omega
        subst hkl'
        simp at hk'
        subst hk'
        cases hb'
    · have hjl' : j = R.length := by
        have := (List.getElem?_eq_some_iff.1 hj).1
        simp at this; omega
      subst hjl'
      simp at hj
      subst hj
      cases hb
  · rw [List.map_append, h.it]; rfl
end
/-- the last item written -/
theorem QS.upd {W w w' : World} {m : Ma} {g n cap : Nat} {R : List Ri} {r r' : Ri} (h : QS W w m (.slice (some ⟨g, 0, none⟩) n cap) (R ++ [r])) (hs : w.heap.size ≤ w'.heap.size) (hk : ∀ k, k < w.heap.size → k ≠ g → r.mv.ownBlock ≠ some k → w'.heap[k]? = w.heap[k]?)
    (ho : w'.ownsRow (W.heap.size + 2) 82 37 (.slice (some ⟨g, 0, none⟩) n cap) (R.length + 1) (rics (R ++ [r']))) (hm : Ow (W.heap.size + 2) w' r'.mv r'.1.l) (hf : ∀ b, r'.mv.ownBlock = some b → r.mv.ownBlock = some b ∨ w.heap.size ≤ b) (hb : Below (W.heap.size + 2) w w') :
    QS W w' { m with items := R.map (·.1) ++ [r'.1] } (.slice (some ⟨g, 0, none⟩) n cap) (R ++ [r']) := by
  have hle := h.le
  have hlast : (R ++ [r])[R.length]? = some r := by simp
  have hme : ∀ (k : Nat) (q : Ri), R[k]? = some q → (R ++ [r])[k]? = some q := fun k q hq => by rw [List.getElem?_append_left (List.getElem?_eq_some_iff.1 hq).1]; exact hq
  have hls : ∀ (k : Nat) (q : Ri), (R ++ [r'])[k]? = some q → (k < R.length ∧ R[k]? = some q) ∨ (k = R.length ∧ q = r') := fun k q hq => by
    by_cases hkl : k < R.length
    · rw [List.getElem?_append_left hkl] at hq
      exact .inl ⟨hkl, hq⟩
    · have hkl' : k = R.length := by
        have := (List.getElem?_eq_some_iff.1 hq).1
        simp at this; omega
      subst hkl'
      simp at hq
      exact .inr ⟨rfl, hq.symm⟩
  refine ⟨h.g0.oth (hb.block _ (by omega)), h.g1.oth (hb.block _ (by omega)), by rw [List.length_append]; exact ho, Nat.le_trans h.le hs, ?_, ?_, h.bel.trans (hb.mono (by omega)), by simp⟩
  · intro k q hq
    rcases hls k q hq with ⟨hkl, hq⟩ | ⟨rfl, rfl⟩
    · have hq0 := h.met k q (hme k q hq)
      refine hq0.stay hs (fun b hbb => hk b (hq0.own.lt b hbb).2 (fun e => ?_) (fun e => ?_))
      · subst e
        exact own_apart h.own hq0.own (by decide) (g := b) rfl hbb
      · exact h.par k R.length q r (by omega) (hme k q hq) hlast b hbb e
    · exact hm
  · intro j k q q' hjk hj hk' b hbj hbk
    rcases hls j q hj with ⟨hjl, hj1⟩ | ⟨ej, eq⟩
    · rcases hls k q' hk' with ⟨hkl, hk1⟩ | ⟨ek, eq'⟩
      · exact h.par j k q q' hjk (hme j q hj1) (hme k q' hk1) b hbj hbk
      · rw [eq'] at hbk
        rcases hf b hbk with e | e
        · exact h.par j R.length q r (by omega) (hme j q hj1) hlast b hbj e
        · have := ((h.met j q (hme j q hj1)).own.lt b hbj).2
          omega
    · rw [eq] at hbj
      rcases hls k q' hk' with ⟨hkl, hk1⟩ | ⟨ek, _⟩
      · rcases hf b hbj with e | e
        · exact h.par R.length k r q' (by omega) hlast (hme k q' hk1) b e hbk
        · have := ((h.met k q' (hme k q' hk1)).own.lt b hbk).2
          omega
      · exact hjk (ej.trans ek.symm)
/-- a cell of the last item -/
theorem QS.cell {W w : World} {m : Ma} {g n cap : Nat} {R : List Ri} {r r' : Ri} (h : QS W w m (.slice (some ⟨g, 0, none⟩) n cap) (R ++ [r])) (j : Nat) (x : Value) (hj : j < 37) (hn : n = R.length + 1) (hc : ri r' = (ri r).set j x) (hmv : r'.mv = r.mv) (hl : r'.1.l = r.1.l) :
    QS W (w.setCell ⟨g, R.length * 37 + j, none⟩ x) { m with items := R.map (·.1) ++ [r'.1] } (.slice (some ⟨g, 0, none⟩) n cap) (R ++ [r']) := by
  subst hn
  have hg := h.own.lt g rfl
  have hlast : (R ++ [r])[R.length]? = some r := by simp
  have hw := h.met R.length r hlast
  have ho := h.own
  rw [List.length_append] at ho
  refine h.upd (by simp) (fun k _ hk _ => hso _ _ hk) ?_ ?_ (fun b hb => .inl (by rw [← hmv]; exact hb)) ((Below.refl _ _).setCell (p := ⟨g, _, none⟩) hg.1 _)
  · rw [rics_last R r r' j x hj hc]
    exact own_cellT ho _ _
  · rw [hmv, hl]
    exact hw.stay (by simp) (fun b hb => hso _ _ (fun e => by subst e; exact own_apart h.own hw.own (by decide) (g := b) rfl hb))
theorem below_scs {B : Nat} {w0 : World} {b : Nat} (hb : B ≤ b) : ∀ (vs : List Value) (o : Nat) {w : World}, Below B w0 w → Below B w0 (w.setCells b o vs)
  | [], _, _, h => h
  | v :: r, o, _, h => below_scs hb r (o + 1) (h.setCell (p := ⟨b, o, none⟩) hb v)
/-- its leaf -/
theorem QS.hash {W w : World} {m : Ma} {g n cap : Nat} {R : List Ri} {x : It} {a : Option Addr} {c : Nat} (h : QS W w m (.slice (some ⟨g, 0, none⟩) n cap) (R ++ [(x, a, c)])) (hn : n = R.length + 1) (f : Nat → UInt8) :
    QS W (w.setCells g (R.length * 37 + 5) (hv f)) { m with items := R.map (·.1) ++ [{ x with g := f }] } (.slice (some ⟨g, 0, none⟩) n cap) (R ++ [({ x with g := f }, a, c)]) := by
  subst hn
  have hg := h.own.lt g rfl
  have hlast : (R ++ [(x, a, c)])[R.length]? = some (x, a, c) := by simp
  have hw := h.met R.length (x, a, c) hlast
  have ho := h.own
  rw [List.length_append] at ho
  refine h.upd (r' := ({ x with g := f }, a, c)) (by rw [szs]; exact Nat.le_refl _) (fun k _ hk _ => hsos hk _ _) ?_ ?_ (fun b hb => .inl hb) (below_scs hg.1 _ _ (Below.refl _ _))
  · rw [rics_hash]
    exact own_cellsT _ _ ho
  · exact hw.stay (by rw [szs]; exact Nat.le_refl _) (fun b hb => hsos (fun e => by subst e; exact own_apart h.own hw.own (by decide) (g := b) rfl hb) _ _)
end Go.Proofs.YtkoaojhldcacbaaGreatDoor

/- The document's number; what Read tells of a place. -/
namespace Go.Proofs.YtkoaojhldcacbaaGreatDoor
set_option maxRecDepth 100000
set_option linter.unusedVariables false
set_option linter.unusedSimpArgs false
open Go.RowKit
open Go.Proofs.YtkoaojhldcacbaaGreatDoorP (ix9 ixS idxs getD_of Rd LEN nn recd)
open Go.Proofs.YtkoaojhldcacbaaGreatDoorH (pz)
attribute [local go_sem ↓] Go.wp_at_zero Go.wp_at_succ ix9
/-- small enough -/
structure Sm (b : List UInt8) (p : Nat) (m : Ma) : Prop where
  n : m.items.length ≤ 257
  l : ∀ x ∈ m.items, x.l.length ≤ p ∧ ∀ e ∈ x.l, e.key.length ≤ b.length ∧ e.val.length ≤ b.length
theorem rd_small {b : List UInt8} {p n : Nat} {q : Kv} (h : rdF b p = some (q, n)) : q.1.length ≤ b.length ∧ q.2.length ≤ b.length ∧ p < n ∧ n ≤ b.length := by
  obtain ⟨h1, h2, h3, h4⟩ := rdFat h
  have : nn q.1 q.2 < LEN (nn q.1 q.2) := Go.Proofs.YtkoaojhldcacbaaGreatDoorP.LEN_pos _
  unfold nn at this
  unfold nn at h2
  omega
theorem mL_mem {l : List It} {f : It → It} {y : It} (h : y ∈ mL l f) : y ∈ l ∨ ∃ x ∈ l, y = f x := by
  rcases List.eq_nil_or_concat l with rfl | ⟨L, x, rfl⟩
  · simp [mL] at h
  · rw [List.concat_eq_append] at h ⊢
    rw [mL_snoc] at h
    rcases List.mem_append.1 h with q | q
    · exact .inl (by simp [q])
    · exact .inr ⟨x, by simp, by simpa using q⟩
theorem mL_len (l : List It) (f : It → It) : (mL l f).length = l.length := by
  rcases List.eq_nil_or_concat l with rfl | ⟨L, x, rfl⟩
  · rfl
  · rw [List.concat_eq_append, mL_snoc]; simp
theorem Sm.upd {b : List UInt8} {p n : Nat} {m : Ma} (h : Sm b p m) (hn : p ≤ n) (f : It → It) (hf : ∀ x, (f x).l = x.l) (s t : Int) : Sm b n ⟨s, t, mL m.items f⟩ := by
  refine ⟨by show (mL m.items f).length ≤ 257; rw [mL_len]; exact h.n, fun y hy => ?_⟩
  rcases mL_mem hy with q | ⟨x, hx, rfl⟩
  · exact ⟨Nat.le_trans (h.l y q).1 hn, (h.l y q).2⟩
  · rw [hf]; exact ⟨Nat.le_trans (h.l x hx).1 hn, (h.l x hx).2⟩
theorem Sm.same {b : List UInt8} {p n : Nat} {m : Ma} (h : Sm b p m) (hn : p ≤ n) (s t : Int) : Sm b n ⟨s, t, m.items⟩ := ⟨h.n, fun x hx => ⟨Nat.le_trans (h.l x hx).1 hn, (h.l x hx).2⟩⟩
theorem Sm.step {b : List UInt8} {p n : Nat} {m m' : Ma} {q : Kv} (h : Sm b p m) (hr : rdF b p = some (q, n)) (hs : stp m q = some m') : Sm b n m' := by
  obtain ⟨r1, r2, r3, r4⟩ := rd_small hr
  have hpn : p ≤ n := by omega
  unfold stp at hs
  split at hs
  · injection hs with hs; subst hs; exact h.same hpn _ _
  split at hs
  · injection hs with hs; subst hs; exact h.same hpn _ _
  split at hs
  · split at hs
    · cases hs
    · injection hs with hs; subst hs
      refine ⟨by simp; omega, fun y hy => ?_⟩
      rcases List.mem_append.1 hy with z | z
      · exact ⟨Nat.le_trans (h.l y z).1 hpn, (h.l y z).2⟩
      · rw [List.mem_singleton.1 z]; exact ⟨Nat.zero_le _, fun e he => by simp at he⟩
  split at hs
  · injection hs with hs; subst hs; exact h.same hpn _ _
  split at hs
  · injection hs with hs; subst hs; exact h.upd hpn (fun x => { x with seq := (nq q.2 0 : Nat) }) (fun _ => rfl) _ _
  split at hs
  · injection hs with hs; subst hs; exact h.upd hpn (fun x => { x with mkr := q.2 == sMarker }) (fun _ => rfl) _ _
  split at hs
  · injection hs with hs; subst hs; exact h.upd hpn (fun x => { x with size := (nq q.2 0 : Nat) }) (fun _ => rfl) _ _
  split at hs
  · injection hs with hs; subst hs; exact h.upd hpn (fun x => { x with g := cut32 (pz q.2) }) (fun _ => rfl) _ _
  split at hs
  · injection hs with hs; subst hs
    refine ⟨by show (mL m.items _).length ≤ 257; rw [mL_len]; exact h.n, fun y hy => ?_⟩
    rcases mL_mem hy with z | ⟨x, hx, rfl⟩
    · exact ⟨Nat.le_trans (h.l y z).1 hpn, (h.l y z).2⟩
    · refine ⟨?_, fun e he => ?_⟩
      · have := (h.l x hx).1
        simp only [List.length_append, List.length_singleton]
        omega
      · rcases List.mem_append.1 he with z | z
        · exact (h.l x hx).2 e z
        · rw [List.mem_singleton.1 z]
          exact ⟨by simp only [List.length_drop]; omega, r2⟩
  · injection hs with hs; subst hs; exact h.same hpn _ _
/-- where the last item lies -/
theorem QS.place {W w : World} {m : Ma} {ra : Option Addr} {n cap : Nat} {R : List Ri} {x : It} {a : Option Addr} {c : Nat} (h : QS W w m (.slice ra n cap) (R ++ [(x, a, c)])) : ∃ g, ra = some ⟨g, 0, none⟩ ∧ g < w.heap.size ∧ (∀ j, w.frozen? ⟨g, j, none⟩ = false) ∧ w.cell? ⟨g, R.length * 37 + 1, none⟩ = some (.int .i64 x.seq) ∧ w.cell? ⟨g, R.length * 37 + 2, none⟩ = some (.bool x.mkr) ∧ w.cell? ⟨g, R.length * 37 + 3, none⟩ = some (.int .i64 x.size) ∧ w.cell? ⟨g, R.length * 37 + 4, none⟩ = some (.slice a x.l.length c) ∧ w.there g (R.length * 37 + 5) 32 := by
  have hlast : (R ++ [(x, a, c)])[R.length]? = some (x, a, c) := by simp
  rcases h.own.2 with ⟨e, h0⟩ | ⟨g, cap', cur, e, h2, h3, h4, h5, h6, h7⟩
  · simp at h0
  · injection e with e1 e2 e3
    subst e1
    have hl := rics_len (R ++ [(x, a, c)])
    rw [List.length_append, List.length_singleton] at hl h4 h7
    have ho := h.own
    rw [List.length_append, List.length_singleton] at ho
    obtain rfl : n = R.length + 1 := by simpa using e2
    have hc : ∀ j, j < 37 → w.cell? ⟨g, R.length * 37 + j, none⟩ = (ri (x, a, c))[j]? := fun j hj => (ho.cellAt _ (by show R.length * 37 + j < (R.length + 1) * 37; omega)).trans (rics_get _ _ _ hlast j hj)
    refine ⟨g, rfl, lt_of_block h3, fun j => frozen_of_row _ _ _ _ _ h3, ?_, ?_, ?_, ?_, ?_⟩
    · rw [hc 1 (by omega)]; rfl
    · rw [hc 2 (by omega)]; rfl
    · rw [hc 3 (by omega)]; rfl
    · rw [hc 4 (by omega)]; rfl
    · exact Go.Proofs.YtkoaojhldcacbaaGreatDoorH.there_of_row h3 _ (by omega)
end Go.Proofs.YtkoaojhldcacbaaGreatDoor
