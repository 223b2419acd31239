/- Layer 22: rows of texts of one's own (as wip/arch/MTx). -/
import Derived.Test.YtgbkloihclbimaaDoorXa
namespace Go.Proofs.YtgbkloihclbimaaDoor
set_option maxRecDepth 100000
set_option linter.unusedVariables false
set_option linter.unusedSimpArgs false
open Go.RowKit
def svs (ts : List (List UInt8)) : List Value := ts.map str
/-- a row of texts of one's own -/
structure So (base : Nat) (w : World) (v : Value) (ts : List (List UInt8)) : Prop where
  own : w.ownsRow base 9 1 v ts.length (svs ts)
  le : base ≤ w.heap.size
theorem So.nil (w : World) (base : Nat) (h : base ≤ w.heap.size) : So base w (.slice none 0 0) [] := ⟨World.ownsRow_nil _ _ _ _, h⟩
theorem So.later {base : Nat} {w w' : World} {v : Value} {R : List (List UInt8)} (h : So base w v R) (hb : Below w.heap.size w w') : So base w' v R := ⟨own_later h.own hb, Nat.le_trans h.le hb.size⟩
theorem info9f : (Tryd.prog.info? 9).map (fun i => (i.zero, i.size, i.bytes)) = some (some (.string ⟨#[]⟩), 1, 16) := by kernel_rfl
theorem info9 : ∃ i, Tryd.prog.info? 9 = some i ∧ i.zero = some (.string ⟨#[]⟩) ∧ i.size = 1 ∧ i.bytes = 16 := by
  have h := info9f
  cases hi : Tryd.prog.info? 9 with
  | none => rw [hi] at h; cases h
  | some i => rw [hi] at h; simp at h; exact ⟨i, rfl, h.1, h.2.1, h.2.2⟩
theorem app_s {ops : Array Oper} {rest : List Oper} {o : Oper} {a : Act} {Q : Exit → Act → World → Prop} {W : World} (hgd : o.guard = none) (s x : Operand) (ho : o.op = .call { callee := .builtin .append, args := #[s, x], argTypes := #[59, 59] })
    {base : Nat} {w : World} {v : Value} {l : List (List UInt8)} {g : Nat} (ps : List (List UInt8)) (hp : ps.length ≤ 16) (hW : W = w.alloc (.cells (svs ps).toArray 9)) (hO : So base w v l) (hg : g = w.heap.size) (hn : l.length ≤ 4500000000000)
    (hs : a.eval s = v) (hx : a.eval x = .slice (some ⟨g, 0, none⟩) ps.length ps.length)
    (h : ∀ v' w', So base w' v' (l ++ ps) → Below base w w' → wpList Tryd.prog ops Q rest (a.put o.dst v') w') :
    wpList Tryd.prog ops Q (o :: rest) a W := by
  obtain ⟨i0, hi0, hz0, hz1, hz2⟩ := info9
  subst hW hg
  have hm : maxLen = 9223372036854775807 := rfl
  refine wpList_append_own_wide _ hgd s x 59 ho base 9 i0 _ 1 16 Tryd.underlying59 hi0 hz0 hz1 hz2 rfl (by omega) v l.length (svs l) hs (hO.own.alloc _) _ ps.length ps.length (svs ps) hx (by simp [svs])
    (World.news_of_block (cs := (svs ps).toArray) (t := 9) (fr := (0, 0)) (heap_alloc_new w _)) (by intro u hu; unfold svs at hu; obtain ⟨q, _, rfl⟩ := List.mem_map.1 hu; rfl) (by rw [hm]; omega) (by omega) (by have := hO.le; simp; omega) ?_
  intro v' w' hown hgrow _
  refine h v' w' ⟨?_, ?_⟩ ?_
  · unfold svs; rw [List.map_append, List.length_append]; exact hown
  · have := hgrow.size; have h2 := hO.le; simp at this; omega
  · exact ((Below.refl _ _).alloc hO.le _).trans (grown_below (hO.own.alloc _) (by have := hO.le; simp; omega) hgrow)
/-- the texts that a slice holds -/
structure TIn (w : World) (a : Option Addr) (ts : List (List UInt8)) : Prop where
  get : ∀ k t, ts[k]? = some t → ∃ b off, a = some ⟨b, off, none⟩ ∧ b < w.heap.size ∧ w.cell? ⟨b, off + k, none⟩ = some (str t)
theorem TIn.later {w w' : World} {a : Option Addr} {l : List (List UInt8)} (h : TIn w a l) (hb : Below w.heap.size w w') : TIn w' a l := by
  refine ⟨fun k p hk => ?_⟩
  obtain ⟨b, off, h1, h2, h3⟩ := h.get k p hk
  exact ⟨b, off, h1, Nat.lt_of_lt_of_le h2 hb.size, by rw [hb.cell (p := ⟨b, _, none⟩) h2]; exact h3⟩
theorem So.slice {base : Nat} {w : World} {v : Value} {l : List (List UInt8)} (h : So base w v l) : ∃ a cap, v = .slice a l.length cap ∧ TIn w a l := by
  rcases h.own.2 with ⟨rfl, h0⟩ | ⟨g, cap, cur, rfl, _⟩
  · have : l = [] := List.eq_nil_of_length_eq_zero h0
    subst this
    exact ⟨none, 0, rfl, ⟨fun k p hk => by simp at hk⟩⟩
  · refine ⟨_, _, rfl, ⟨fun k p hk => ?_⟩⟩
    have hkl := (List.getElem?_eq_some_iff.1 hk).1
    have hlt := (h.own.lt g rfl).2
    refine ⟨g, 0, rfl, hlt, ?_⟩
    rw [Nat.zero_add, h.own.cellAt _ (by omega)]
    unfold svs
    rw [List.getElem?_map, hk]
    rfl
end Go.Proofs.YtgbkloihclbimaaDoor
