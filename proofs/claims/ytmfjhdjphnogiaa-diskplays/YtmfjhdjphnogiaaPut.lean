/- Puts that came in; letters in a row; what a sector holds. -/
import Derived.Test.YtmfjhdjphnogiaaHead
namespace Go.Proofs.Ytmfjhdjphnogiaa
set_option linter.unusedVariables false
set_option linter.unusedSimpArgs false
open Go.RowKit
/-- the list that a slice of puts holds -/
structure PIn (w : World) (a : Option Addr) (l : List (Int × UInt8)) : Prop where
  get : ∀ (k : Nat) p, l[k]? = some p → ∃ b off, a = some ⟨b, off, none⟩ ∧ b < w.heap.size ∧ w.cell? ⟨b, off + k * 2, none⟩ = some (.int .i64 p.1) ∧ w.cell? ⟨b, off + k * 2 + 1, none⟩ = some (.int .u8 (p.2.toNat : Int)) ∧ -9223372036854775808 ≤ p.1 ∧ p.1 ≤ 9223372036854775807
theorem PIn.below {w w' : World} {a : Option Addr} {l : List (Int × UInt8)} (h : PIn w a l) (b : Below w.heap.size w w') : PIn w' a l := ⟨fun k p hk => by
  obtain ⟨c, off, h1, h2, h3, h4, h5⟩ := h.get k p hk
  exact ⟨c, off, h1, Nat.lt_of_lt_of_le h2 b.size, by rw [b.cell (p := ⟨c, _, none⟩) h2]; exact h3, by rw [b.cell (p := ⟨c, _, none⟩) h2]; exact h4, h5⟩⟩
theorem IIn.later {w w' : World} {a : Option Addr} {zs : List Int} (h : IIn w a zs) (b : Below w.heap.size w w') : IIn w' a zs := h.below b (fun _ _ _ hb => hb)
theorem PIn.two {w w' : World} {b off : Nat} {l : List (Int × UInt8)} (h : PIn w (some ⟨b, off, none⟩) l) (bl : Below w.heap.size w w') (k : Nat) (p : Int × UInt8) (hk : l[k]? = some p) : w'.cell? ⟨b, off + k * 2, none⟩ = some (.int .i64 p.1) ∧ w'.cell? ⟨b, off + k * 2 + 1, none⟩ = some (.int .u8 (p.2.toNat : Int)) := by
  obtain ⟨c, off', h1, h2, h3, h4, h5⟩ := (h.below bl).get k p hk
  injection h1 with h1
  injection h1 with e1 e2
  subst e1 e2
  exact ⟨h3, h4⟩
/-- letters as cells -/
def lcs (l : List UInt8) : Array Value := (l.map fun c => Value.int .u8 (c.toNat : Int)).toArray
theorem lcs_get (l : List UInt8) (j : Nat) (h : j < l.length) : (lcs l)[j]? = some (.int .u8 ((l.getD j 0).toNat : Int)) := by
  simp [lcs, List.getElem?_eq_getElem h, List.getD_eq_getElem?_getD]
theorem lcs_set (l : List UInt8) (j : Nat) (c : UInt8) : (lcs l).setIfInBounds j (.int .u8 (c.toNat : Int)) = lcs (l.set j c) := by
  simp [lcs, List.map_set]
def bcs (l : List Bool) : Array Value := (l.map Value.bool).toArray
theorem bcs_get (l : List Bool) (j : Nat) (h : j < l.length) : (bcs l)[j]? = some (.bool (l.getD j false)) := by
  simp [bcs, List.getElem?_eq_getElem h, List.getD_eq_getElem?_getD]
theorem bcs_set (l : List Bool) (j : Nat) (c : Bool) : (bcs l).setIfInBounds j (.bool c) = bcs (l.set j c) := by
  simp [bcs, List.map_set]
/-- on, no fall, and what is seen are these letters -/
structure Wst (m : Nat) (st : St) (want : List UInt8) (k : Nat) : Prop where
  off : st.off = false
  fall : st.fall = 0
  len : st.safe.length = m
  wl : want.length = m
  seen : st.seen = want.map fl
  pend : st.pend.length = k
theorem Wst.start (m : Nat) : Wst m (fresh m) (List.replicate m 0) 0 := ⟨rfl, rfl, by simp [fresh], by simp, by show List.replicate m (fl 0) = _; simp, rfl⟩
theorem Wst.write {m : Nat} {st : St} {want : List UInt8} {k : Nat} (h : Wst m st want k) (j : Nat) (hj : j < m) (c : UInt8) : ∃ st', st.write (j : Int) (fl c) = (st', 0) ∧ Wst m st' (want.set j c) (k + 1) := by
  have hh : (st.has (j : Int) && (fl c).size == 512) = true := by simp [St.has, fl_size, h.len]; omega
  have hg : st.gone = false := by simp [St.gone, h.fall]
  have hw : st.went = st := by unfold St.went; rw [if_pos h.fall]
  refine ⟨{ st with pend := st.pend ++ [(j, fl c)] }, ?_, ⟨h.off, h.fall, h.len, by simpa using h.wl, ?_, by simp [h.pend]⟩⟩
  · unfold St.write
    rw [if_neg (by rw [h.off]; simp), if_pos hh, if_neg (by rw [hg]; simp), hw]
    simp
  · show lay st.safe (st.pend ++ [(j, fl c)]) = _
    rw [lay_snoc, List.map_set]
    show (st.seen).set j (fl c) = _
    rw [h.seen]
theorem Wst.flush {m : Nat} {st : St} {want : List UInt8} {k : Nat} (h : Wst m st want k) : ∃ st', st.flush = (st', 0) ∧ Wst m st' want 0 ∧ st'.safe = want.map fl ∧ st'.pend = [] := by
  have hg : st.gone = false := by simp [St.gone, h.fall]
  have hw : st.went = st := by unfold St.went; rw [if_pos h.fall]
  refine ⟨{ st with safe := st.seen, pend := [] }, ?_, ⟨h.off, h.fall, by rw [St.seen_length]; exact h.len, h.wl, h.seen, rfl⟩, h.seen, rfl⟩
  unfold St.flush
  rw [if_neg (by rw [h.off]; simp), if_neg (by rw [hg]; simp), hw]
end Go.Proofs.Ytmfjhdjphnogiaa
