import Derived.Test.YtkoaojhldcacbaaGreatDoorQe
import Derived.Test.YtkoaojhldcacbaaGreatDoorGh
import Derived.Deep.DeepAppendWide
import Derived.Deep.AppendLies
/- Made: what a value of the law's is. No model. -/
namespace Go.Proofs.YtkoaojhldcacbaaGreatDoor
set_option maxRecDepth 100000
set_option linter.unusedVariables false
set_option linter.unusedSimpArgs false
open Go.Proofs.YtkoaojhldcacbaaGreatDoorP (recd Rd key nn LEN)
open Go.Proofs.YtkoaojhldcacbaaGreatDoorH (hexL rootOf)
/-- a version that is made, with a number up to sq -/
structure Mv (sq : Int) (v : Vs) : Prop where
  k1 : 1 ≤ v.key.length
  k2 : v.key.length ≤ 32
  s1 : 1 ≤ v.seq
  s2 : v.seq ≤ sq
  d : v.data.length ≤ 1024
  m : v.mkr = true → v.data = [] ∧ v.l = []
  l : mtE v.l = 0
  t : v.l.length ≤ 5
/-- the order of two versions -/
def vbef (u v : Vs) : Prop := bcmp u.key v.key < 0 ∨ (u.key = v.key ∧ u.seq < v.seq)
/-- the value as it is made -/
structure Mdl (sq : Int) (L : List Vs) : Prop where
  len : L.length ≤ 40
  s0 : 0 ≤ sq
  s1 : sq ≤ 8 * (L.length : Int)
  ok : ∀ v ∈ L, Mv sq v
  srt : L.Pairwise vbef
  nod : (L.map (·.seq)).Nodup
theorem Mdl.nil : Mdl 0 [] := ⟨by decide, by decide, by decide, fun v h => by simp at h, List.Pairwise.nil, by simp⟩
theorem Mv.mono {a b : Int} {v : Vs} (h : Mv a v) (hab : a ≤ b) : Mv b v := ⟨h.k1, h.k2, h.s1, Int.le_trans h.s2 hab, h.d, h.m, h.l, h.t⟩
theorem bcmp_pos {a b : List UInt8} (h : 0 < bcmp a b) : bcmp b a < 0 := by rw [bcmp_neg]; omega
theorem bcmp_lt_trans {a b c : List UInt8} (h1 : bcmp a b < 0) (h2 : bcmp b c < 0) : bcmp a c < 0 := by
  have e1 : bcmp a b = -1 := by rcases bcmp_cases a b with h | h | h <;> omega
  have e2 : bcmp b c = -1 := by rcases bcmp_cases b c with h | h | h <;> omega
  rw [bcmp_trans e1 e2]; omega
/-- a version is laid in where it belongs -/
theorem Mdl.put {sq sq' : Int} {L : List Vs} {v : Vs} {j : Nat} (h : Mdl sq L) (hl : L.length < 40) (h1 : sq < sq') (h2 : sq' ≤ sq + 8) (hv : Mv sq' v) (hs : v.seq = sq') (hj : j ≤ L.length)
    (hb : ∀ i u, i < j → L[i]? = some u → bcmp u.key v.key ≤ 0) (ha : ∀ u, L[j]? = some u → 0 < bcmp u.key v.key) : Mdl sq' (L.take j ++ [v] ++ L.drop j) := by
  have hlen : (L.take j ++ [v] ++ L.drop j).length = L.length + 1 := by simp; omega
  have hT : ∀ u ∈ L.take j, vbef u v := fun u hu => by
    obtain ⟨i, hi, e⟩ := List.getElem_of_mem hu
    have hij : i < j := by rw [List.length_take] at hi; omega
    have e2 : L[i]? = some u := by rw [← List.getElem?_take_of_lt hij, List.getElem?_eq_getElem hi, e]
    have h3 := hb i u hij e2
    have h4 := (h.ok u (List.mem_of_getElem? e2)).s2
    rcases Int.lt_or_eq_of_le h3 with h5 | h5
    · exact .inl h5
    · exact .inr ⟨bcmp_zero h5, by rw [hs]; omega⟩
  have hD : ∀ u ∈ L.drop j, bcmp v.key u.key < 0 := fun u hu => by
    obtain ⟨i, hi, e⟩ := List.getElem_of_mem hu
    have e2 : L[j + i]? = some u := by rw [← List.getElem?_drop, List.getElem?_eq_getElem hi, e]
    have hlt := (List.getElem?_eq_some_iff.1 e2).1
    obtain ⟨x, hx⟩ : ∃ x, L[j]? = some x := ⟨L[j]'(by omega), List.getElem?_eq_getElem (by omega)⟩
    have h3 := bcmp_pos (ha x hx)
    rcases Nat.eq_zero_or_pos i with rfl | hi0
    · rw [Nat.add_zero, hx] at e2; injection e2 with e2; subst e2; exact h3
    · obtain ⟨q1, q2⟩ := List.getElem?_eq_some_iff.1 hx
      obtain ⟨q3, q4⟩ := List.getElem?_eq_some_iff.1 e2
      have := List.pairwise_iff_getElem.1 h.srt j (j + i) q1 q3 (by omega)
      rw [q2, q4] at this
      rcases this with h5 | ⟨h5, _⟩
      · exact bcmp_lt_trans h3 h5
      · rw [← h5]; exact h3
  refine ⟨by omega, by have := h.s0; omega, by rw [hlen]; have := h.s1; omega, fun u hu => ?_, ?_, ?_⟩
  · simp only [List.mem_append, List.mem_cons, List.not_mem_nil, or_false] at hu
    rcases hu with (hu | rfl) | hu
    · exact (h.ok u (List.mem_of_mem_take hu)).mono (by omega)
    · exact hv
    · exact (h.ok u (List.mem_of_mem_drop hu)).mono (by omega)
  · rw [List.append_assoc, List.pairwise_append]
    refine ⟨h.srt.sublist (List.take_sublist _ _), ?_, fun u hu x hx => ?_⟩
    · rw [List.cons_append, List.nil_append, List.pairwise_cons]
      exact ⟨fun u hu => .inl (hD u hu), h.srt.sublist (List.drop_sublist _ _)⟩
    · simp only [List.cons_append, List.nil_append, List.mem_cons] at hx
      rcases hx with rfl | hx
      · exact hT u hu
      · have h3 := hD x hx
        rcases hT u hu with h4 | ⟨h4, _⟩
        · exact .inl (bcmp_lt_trans h4 h3)
        · exact .inl (by rw [h4]; exact h3)
  · have hn : v.seq ∉ L.map (·.seq) := fun q => by
      obtain ⟨u, hu, e⟩ := List.mem_map.1 q
      have := (h.ok u hu).s2
      rw [e, hs] at this
      omega
    have e : L.map (·.seq) = (L.take j).map (·.seq) ++ (L.drop j).map (·.seq) := by rw [← List.map_append, List.take_append_drop]
    have hN := h.nod
    rw [e] at hN hn
    rw [List.mem_append] at hn
    obtain ⟨n1, n2, n3⟩ := List.nodup_append.1 hN
    rw [List.map_append, List.map_append, List.append_assoc]
    refine List.nodup_append.2 ⟨n1, ?_, fun x hx y hy => ?_⟩
    · rw [List.map_cons, List.map_nil, List.cons_append, List.nil_append, List.nodup_cons]
      exact ⟨fun q => hn (.inr q), n2⟩
    · simp only [List.map_cons, List.map_nil, List.cons_append, List.nil_append, List.mem_cons] at hy
      rcases hy with rfl | hy
      · exact fun q => hn (.inl (by rw [← q]; exact hx))
      · exact n3 x hx y hy
theorem Mv.rt {sq : Int} {v : Vs} (h : Mv sq v) (hs : sq ≤ 1099511627776) : rtE v = 0 := by
  have hk : keyE v.key = 0 := by unfold keyE; rw [if_pos ⟨h.k1, h.k2⟩]
  have hd : datE v.data = 0 := by unfold datE; rw [if_pos h.d]
  have h1 := h.s1
  have h2 := h.s2
  unfold rtE
  rw [if_neg (by omega)]
  unfold vrE
  rw [if_neg (fun q => q hk), if_neg (fun q => ?_), if_neg (fun q => ?_)]
  · exact h.l
  · have := (h.m q.1).2; rw [this] at q; simp at q
  · rcases q with ⟨a, b⟩ | q
    · exact b (h.m a).1
    · exact q hd
theorem mtt_le : ∀ (l : List En), (∀ p ∈ l, prb p = true) → tt l ≤ l.length * 80
  | [], _ => by simp [tt]
  | p :: l, h => by
    have h1 := mtt_le l (fun q hq => h q (by simp [hq]))
    obtain ⟨h2, h3⟩ := prb_iff (h p (by simp))
    have h4 := (small_key h2).2.2.2
    have e : tt (p :: l) = (p.key.length + p.val.length) + tt l := by simp [tt]
    rw [e, List.length_cons]
    omega
theorem Mv.sz {sq : Int} {v : Vs} (h : Mv sq v) : isz (itOf v (enc v)) ≤ 1488 := by
  have h1 := mtt_le v.l (mtE_iff h.l).2.1
  have h2 := h.t
  have h3 := h.k2
  have h4 := h.d
  have : tt v.l ≤ 400 := by omega
  unfold isz
  simp only
  omega
theorem isum_le {sq : Int} : ∀ (L : List Vs), (∀ v ∈ L, Mv sq v) → isum (ofI L) ≤ 1488 * (L.length : Int)
  | [], _ => by simp [isum]
  | v :: L, h => by
    have h1 := isum_le L (fun u hu => h u (by simp [hu]))
    have h2 := (h v (by simp)).sz
    have e : isum (ofI (v :: L)) = isz (itOf v (enc v)) + isum (ofI L) := by simp [isum, ofI]
    rw [e, List.length_cons]
    omega
theorem Mdl.of {sq next : Int} {L : List Vs} (h : Mdl sq L) (h1 : sq < next) (h2 : next ≤ sq + 1024) : OfR L next 0 := by
  have hs := h.s1
  have hl := h.len
  have h0 := h.s0
  refine ⟨by omega, fun v hv => (h.ok v hv).rt (by omega), ⟨by show 1 ≤ next; omega, by show next ≤ _; omega, Int.le_refl 0, by show 0 ≤ next; omega, by simp [ofI]; omega, fun x hx => ?_, ?_, ?_, ?_⟩⟩
  · obtain ⟨v, hv, rfl⟩ := List.mem_map.1 hx
    have hm := h.ok v hv
    have a1 := hm.s1
    have a2 := hm.s2
    have a3 := hm.d
    refine ⟨by unfold keyE; rw [if_pos ⟨hm.k1, hm.k2⟩], a1, by show v.seq < next; omega, by show 0 ≤ v.seq; omega, fun q => ?_, fun q => ⟨by show (0 : Int) ≤ (v.data.length : Int); omega, by show (v.data.length : Int) ≤ 1024; omega, hm.l⟩⟩
    obtain ⟨b1, b2⟩ := hm.m q
    exact ⟨by show (v.data.length : Int) = 0; rw [b1]; rfl, b2⟩
  · show ((L.map fun v => itOf v (enc v)).Pairwise bef)
    rw [List.pairwise_map]
    exact h.srt
  · show ((ofI L).map (·.seq)).Nodup
    have : (ofI L).map (·.seq) = L.map (·.seq) := by unfold ofI; rw [List.map_map]; rfl
    rw [this]
    exact h.nod
  · have := isum_le L h.ok
    show isum (ofI L) ≤ _
    omega
/- how long its archive is -/
end Go.Proofs.YtkoaojhldcacbaaGreatDoor

/- Made: cut; a list that is laid together out of parts. -/
namespace Go.Proofs.YtkoaojhldcacbaaGreatDoor
set_option maxRecDepth 100000
set_option linter.unusedVariables false
set_option linter.unusedSimpArgs false
open Go.RowKit
open Stk (Rv rcs rcells rcells_append rcells_length rcells_get rcells_one infoV)
attribute [local go_sem ↓] Go.wp_at_zero Go.wp_at_succ Go.Proofs.YtkoaojhldcacbaaGreatDoorP.sl9
/-- a list of one's own since W0; its pairs stand since -/
structure Lv (W0 w : World) (v : Value) (R : List Rv) : Prop where
  own : w.ownsRow W0.heap.size 33 5 v R.length (rcells R)
  bel : Below W0.heap.size W0 w
  met : ∀ r ∈ R, r.z = [] ∧ Sl W0 r.a r.c r.v.l
theorem Lv.later {W0 w w' : World} {v : Value} {R : List Rv} (h : Lv W0 w v R) (hb : Below w.heap.size w w') : Lv W0 w' v R := ⟨own_later h.own hb, h.bel.trans (hb.mono h.bel.size), h.met⟩
theorem Lv.nil (w : World) : Lv w w (.slice none 0 0) [] := ⟨World.ownsRow_nil _ _ _ _, Below.refl _ _, fun r h => by simp at h⟩
theorem Lv.sl {W0 w : World} {v : Value} {R : List Rv} (h : Lv W0 w v R) : ∃ a c, v = .slice a R.length c ∧ R.length ≤ c ∧ c ≤ 9223372036854775807 ∧ (a = none → c = 0) ∧ (∀ j u, (rcells R)[j]? = some u → ∃ g, a = some ⟨g, 0, none⟩ ∧ g < w.heap.size ∧ w.cell? ⟨g, j, none⟩ = some u) := by
  rcases h.own.2 with ⟨rfl, h0⟩ | ⟨g, cap, cur, rfl, h2, h3, h4, h5, _⟩
  · refine ⟨none, 0, by rw [h0], by omega, by omega, fun _ => rfl, fun j u hj => ?_⟩
    have : R = [] := List.eq_nil_of_length_eq_zero h0
    subst this
    simp [rcells] at hj
  · refine ⟨_, cap, rfl, h4, h5, (fun q => by cases q), fun j u hj => ⟨g, rfl, lt_of_block h3, ?_⟩⟩
    have := rcells_length R
    have hlt := (List.getElem?_eq_some_iff.1 hj).1
    rw [h.own.cellAt j (by omega)]
    exact hj
theorem Lv.vin {W0 w : World} {a : Option Addr} {n c : Nat} {R : List Rv} (h : Lv W0 w (.slice a n c) R) : VIn w a (R.map (·.v)) := by
  obtain ⟨a', c', e, h1, h2, h3, h4⟩ := h.sl
  injection e with e1 e2 e3
  subst e1 e3
  refine ⟨fun k v hk => ?_⟩
  rw [List.getElem?_map] at hk
  cases hr : R[k]? with
  | none => rw [hr] at hk; cases hk
  | some r =>
    rw [hr] at hk
    simp at hk
    subst hk
    have hc : ∀ j u, j < 5 → (rcs r)[j]? = some u → ∃ g, a = some ⟨g, 0, none⟩ ∧ g < w.heap.size ∧ w.cell? ⟨g, k * 5 + j, none⟩ = some u := fun j u hj hu => h4 _ _ (by rw [rcells_get hr j hj]; exact hu)
    obtain ⟨g, e0, hg, c0⟩ := hc 0 _ (by omega) rfl
    subst e0
    have hd : ∀ j u, j < 5 → (rcs r)[j]? = some u → w.cell? ⟨g, 0 + k * 5 + j, none⟩ = some u := fun j u hj hu => by
      obtain ⟨g', e1, _, c1⟩ := hc j u hj hu
      injection e1 with e1
      injection e1 with e1
      subst e1
      rw [Nat.zero_add]
      exact c1
    obtain ⟨m1, m2⟩ := h.met r (List.mem_of_getElem? hr)
    exact ⟨g, 0, r.a, r.c, rfl, hg, by have := hd 0 _ (by omega) rfl; exact this, hd 1 _ (by omega) rfl, hd 2 _ (by omega) rfl, hd 3 _ (by omega) rfl, hd 4 _ (by omega) rfl, m2.later h.bel⟩
/-- the front of a list, and what stands behind it, as lists that are laid behind -/
theorem Lv.front {W0 w : World} {a : Option Addr} {n c : Nat} {R : List Rv} (h : Lv W0 w (.slice a n c) R) (k : Nat) : ∀ j u, (rcells (R.take k))[j]? = some u → ∃ b off, a = some ⟨b, off, none⟩ ∧ b < w.heap.size ∧ w.cell? ⟨b, off + j, none⟩ = some u := fun j u hj => by
  obtain ⟨a', c', e, h1, h2, h3, h4⟩ := h.sl
  injection e with e1 e2 e3
  subst e1 e3
  have hlt := (List.getElem?_eq_some_iff.1 hj).1
  have e9 : rcells R = rcells (R.take k) ++ rcells (R.drop k) := by rw [← rcells_append, List.take_append_drop]
  obtain ⟨g, q1, q2, q3⟩ := h4 j u (by rw [e9, List.getElem?_append_left hlt]; exact hj)
  exact ⟨g, 0, q1, q2, by rw [Nat.zero_add]; exact q3⟩
theorem Lv.back {W0 w : World} {a : Option Addr} {n c : Nat} {R : List Rv} (h : Lv W0 w (.slice a n c) R) (k : Nat) (hk : k ≤ R.length) : ∀ j u, (rcells (R.drop k))[j]? = some u → ∃ b off, Stk.dropV a c k = some ⟨b, off, none⟩ ∧ b < w.heap.size ∧ w.cell? ⟨b, off + j, none⟩ = some u := fun j u hj => by
  obtain ⟨a', c', e, h1, h2, h3, h4⟩ := h.sl
  injection e with e1 e2 e3
  subst e1 e3
  have hlt := (List.getElem?_eq_some_iff.1 hj).1
  rw [rcells_length, List.length_drop] at hlt
  have e9 : rcells R = rcells (R.take k) ++ rcells (R.drop k) := by rw [← rcells_append, List.take_append_drop]
  have hl : (rcells (R.take k)).length = k * 5 := by rw [rcells_length, List.length_take]; omega
  obtain ⟨g, q1, q2, q3⟩ := h4 (k * 5 + j) u (by rw [e9, List.getElem?_append_right (by omega), hl, show k * 5 + j - k * 5 = j by omega]; exact hj)
  refine ⟨g, k * 5, ?_, q2, q3⟩
  rw [q1]
  show (if c - k = 0 then _ else _) = _
  rw [if_neg (by omega), addr_add, Nat.zero_add]
/-- a box with a version -/
def B5v (w : World) (g : Nat) (key : List UInt8) (seq : Int) (mkr : Bool) (data : List UInt8) (m : Value) : Prop := w.heap[g]? = some (.cells #[str key, .int .i64 seq, .bool mkr, str data, m] 33 (0, 0))
theorem B5v.new (w : World) (key : List UInt8) (seq : Int) (mkr : Bool) (data : List UInt8) (m : Value) : B5v (w.alloc (.cells #[str key, .int .i64 seq, .bool mkr, str data, m] 33)) w.heap.size key seq mkr data m := heap_alloc_new _ _
theorem B5v.lt {w : World} {g : Nat} {key : List UInt8} {seq : Int} {mkr : Bool} {data : List UInt8} {m : Value} (h : B5v w g key seq mkr data m) : g < w.heap.size := lt_of_block h
theorem B5v.later {w w' : World} {g : Nat} {key : List UInt8} {seq : Int} {mkr : Bool} {data : List UInt8} {m : Value} (h : B5v w g key seq mkr data m) (hb : Below w.heap.size w w') : B5v w' g key seq mkr data m := (hb.block g h.lt).trans h
theorem B5v.oth {w w' : World} {g : Nat} {key : List UInt8} {seq : Int} {mkr : Bool} {data : List UInt8} {m : Value} (h : B5v w g key seq mkr data m) (e : w'.heap[g]? = w.heap[g]?) : B5v w' g key seq mkr data m := e.trans h
theorem B5v.cells {w : World} {g : Nat} {key : List UInt8} {seq : Int} {mkr : Bool} {data : List UInt8} {m : Value} (h : B5v w g key seq mkr data m) : w.cell? ⟨g, 0, none⟩ = some (str key) ∧ w.cell? ⟨g, 1, none⟩ = some (.int .i64 seq) ∧ w.cell? ⟨g, 2, none⟩ = some (.bool mkr) ∧ w.cell? ⟨g, 3, none⟩ = some (str data) ∧ w.cell? ⟨g, 4, none⟩ = some m := by
  refine ⟨?_, ?_, ?_, ?_, ?_⟩ <;> (rw [cell_of_row _ _ _ _ _ _ h]; rfl)
theorem B5v.fz {w : World} {g : Nat} {key : List UInt8} {seq : Int} {mkr : Bool} {data : List UInt8} {m : Value} (h : B5v w g key seq mkr data m) (j : Nat) : w.frozen? ⟨g, j, none⟩ = false := frozen_of_row _ _ _ _ _ h
theorem B5v.set3 {w : World} {g : Nat} {key : List UInt8} {seq : Int} {mkr : Bool} {data : List UInt8} {m : Value} (h : B5v w g key seq mkr data m) (d : List UInt8) : B5v (w.setCell ⟨g, 3, none⟩ (str d)) g key seq mkr d m := by unfold B5v; rw [heap_setCell_same _ _ _ _ _ _ h]; rfl
theorem B5v.set4 {w : World} {g : Nat} {key : List UInt8} {seq : Int} {mkr : Bool} {data : List UInt8} {m : Value} (h : B5v w g key seq mkr data m) (m' : Value) : B5v (w.setCell ⟨g, 4, none⟩ m') g key seq mkr data m' := by unfold B5v; rw [heap_setCell_same _ _ _ _ _ _ h]; rfl
end Go.Proofs.YtkoaojhldcacbaaGreatDoor
