/- Slices as they are told; a list put behind another one. -/
import Derived.Test.YtijkabnhedmimabHead
namespace Go.Proofs.Ytijkabnhedmimab
set_option linter.unusedVariables false
set_option linter.unusedSimpArgs false
open Go.RowKit
theorem PIn.take {w : World} {a : Option Addr} {l : List Pt} (h : PIn w a l) (n : Nat) : PIn w a (l.take n) := ⟨fun k p hk => h.get k p (by
  by_cases hkn : k < n
  · rw [List.getElem?_take_of_lt hkn] at hk; exact hk
  · rw [List.getElem?_eq_none (by rw [List.length_take]; omega)] at hk; cases hk)⟩
noncomputable def slP (v : Value) (a b c : Option Value) : Sem Value := Instr.slice 30 v a b c
theorem slPe (v : Value) (a b c : Option Value) : Instr.slice 30 v a b c = slP v a b c := rfl
theorem run_slP (a : Option Addr) (len cap n : Nat) (h1 : n ≤ len) (h2 : len ≤ cap) (h3 : cap ≤ 9223372036854775807) (hn : a = none → cap = 0) (w : World) : (slP (.slice a len cap) none (some (.int .i64 (n : Int))) none).run Try.prog w = .ok (.slice a n cap) w := by
  unfold slP
  cases a with
  | none =>
    obtain rfl := hn rfl
    obtain rfl : len = 0 := by omega
    obtain rfl : n = 0 := by omega
    simp [Instr.slice, Try.underlying30, go_sem]
  | some ad =>
    simp [Instr.slice, Try.underlying30, go_sem]
    intro hc
    omega
/-- a slice as it is told: where, how long, how much room -/
structure Sl (w : World) (a : Option Addr) (cap : Nat) (l : List Pt) : Prop where
  at' : PIn w a l
  le : l.length ≤ cap
  max : cap ≤ 9223372036854775807
  nil : a = none → cap = 0
theorem Sl.later {w w' : World} {a : Option Addr} {cap : Nat} {l : List Pt} (h : Sl w a cap l) (hb : Below w.heap.size w w') : Sl w' a cap l := ⟨h.at'.later hb, h.le, h.max, h.nil⟩
theorem Sl.take {w : World} {a : Option Addr} {cap : Nat} {l : List Pt} (h : Sl w a cap l) (n : Nat) : Sl w a cap (l.take n) := ⟨h.at'.take n, Nat.le_trans (by rw [List.length_take]; omega) h.le, h.max, h.nil⟩
theorem Ow.sl {base : Nat} {w : World} {v : Value} {l : List Pt} (h : Ow base w v l) : ∃ a cap, v = .slice a l.length cap ∧ Sl w a cap l := by
  obtain ⟨a, cap, rfl, hP⟩ := h.slice
  refine ⟨a, cap, rfl, hP, ?_, ?_, ?_⟩
  all_goals rcases h.own.2 with ⟨e, h0⟩ | ⟨g, cap', cur, e, _, _, h1, h2, _⟩
  all_goals injection e with e1 e2 e3
  all_goals subst e1 e3
  · omega
  · exact h1
  · omega
  · exact h2
  · intro _; rfl
  · intro h; cases h
theorem PIn.cells {w : World} {b off : Nat} {q : List Pt} (h : PIn w (some ⟨b, off, none⟩) q) : ∀ j u, (pcells q)[j]? = some u → w.cell? ((⟨b, off, none⟩ : Addr).add j) = some u := by
  intro j u hj
  have hadd : (⟨b, off, none⟩ : Addr).add j = ⟨b, off + j, none⟩ := by unfold Addr.add; split <;> simp_all
  rw [hadd]
  have hlt : j < (pcells q).length := (List.getElem?_eq_some_iff.1 hj).1
  rw [pcells_length] at hlt
  have hk : j / 3 < q.length := by omega
  obtain ⟨p, hp⟩ : ∃ p, q[j / 3]? = some p := ⟨q[j / 3], List.getElem?_eq_getElem hk⟩
  obtain ⟨c0, c1, c2⟩ := pcells_get hp
  obtain ⟨b', off', e, _, k0, k1, k2⟩ := h.get _ _ hp
  injection e with e
  injection e with e1 e2
  subst e1 e2
  rcases (by omega : j = j / 3 * 3 ∨ j = j / 3 * 3 + 1 ∨ j = j / 3 * 3 + 2) with h | h | h
  · have hj' : (pcells q)[j / 3 * 3]? = some u := by rw [← h]; exact hj
    rw [c0] at hj'
    rw [show off + j = off + j / 3 * 3 by omega, k0]; exact hj'
  · have hj' : (pcells q)[j / 3 * 3 + 1]? = some u := by rw [← h]; exact hj
    rw [c1] at hj'
    rw [show off + j = off + j / 3 * 3 + 1 by omega, k1]; exact hj'
  · have hj' : (pcells q)[j / 3 * 3 + 2]? = some u := by rw [← h]; exact hj
    rw [c2] at hj'
    rw [show off + j = off + j / 3 * 3 + 2 by omega, k2]; exact hj'
theorem pcells_one (l : List Pt) : ∀ u ∈ pcells l, u.oneCell' = true := by
  intro u hu
  unfold pcells at hu
  rw [List.mem_flatten] at hu
  obtain ⟨x, hx, hu⟩ := hu
  obtain ⟨p, _, rfl⟩ := List.mem_map.1 hx
  simp [pcs] at hu
  rcases hu with rfl | rfl | rfl <;> rfl
theorem Ow.empty {base : Nat} (w : World) (h : base ≤ w.heap.size) : Ow base (w.alloc (.cells #[] 39)) (.slice (some ⟨w.heap.size, 0, none⟩) 0 0) [] :=
  ⟨⟨rfl, Or.inr ⟨w.heap.size, 0, #[], rfl, h, heap_alloc_new _ _, Nat.le_refl _, Nat.zero_le _, rfl, rfl⟩⟩, by simp; omega⟩
theorem app_slice {ops : Array Oper} {rest : List Oper} {o : Oper} {a : Act} {Q : Exit → Act → World → Prop} {w : World} (hgd : o.guard = none) (s x : Operand) (ho : o.op = .call { callee := .builtin .append, args := #[s, x], argTypes := #[30, 30] })
    {base : Nat} {v : Value} {l : List Pt} {ad : Option Addr} {k c : Nat} (q : List Pt) (hO : Ow base w v l) (hS : Sl w ad c q) (hk : q.length = k) (hn : l.length + q.length ≤ 1000000000000)
    (hs : a.eval s = v) (hx : a.eval x = .slice ad k c)
    (h : ∀ v' w', Ow base w' v' (l ++ q) → Below base w w' → wpList Try.prog ops Q rest (a.put o.dst v') w') :
    wpList Try.prog ops Q (o :: rest) a w := by
  obtain ⟨i0, hi0, hz0, hz1, hz2⟩ := infoP
  have hm : maxLen = 9223372036854775807 := rfl
  subst hk
  cases ad with
  | none =>
    have hc := hS.nil rfl
    have h0 : q.length = 0 := by have := hS.le; omega
    have hq : q = [] := List.eq_nil_of_length_eq_zero h0
    subst hq hc
    refine wpList_plain hgd fun K hK' => ?_
    have hrun := run_append_owned_none (P := Try.prog) w base 30 o.type 39 i0 3 Try.underlying30 hi0 _ l.length (pcells l) hO.own
    unfold Oper.wp
    simp [execOp, ho, resolve, invoke, builtin, hs, hx, hrun, Result.andThen]
    exact hK' _ _ (h v w (by simpa using hO) (Below.refl _ _))
  | some ad =>
    have hspot : q.length = 0 ∨ ad.spot = none := by
      rcases Nat.eq_zero_or_pos q.length with h0 | h0
      · exact Or.inl h0
      · obtain ⟨b, off, e, _⟩ := hS.at'.get 0 q[0] (List.getElem?_eq_getElem h0)
        injection e with e
        exact Or.inr (by rw [e])
    have hcells : ∀ j u, (pcells q)[j]? = some u → w.cell? (ad.add j) = some u := by
      rcases hspot with h0 | h0
      · intro j u hj
        have hq : q = [] := List.eq_nil_of_length_eq_zero h0
        subst hq
        simp [pcells] at hj
      · obtain ⟨b, off, sp⟩ := ad
        simp at h0
        subst h0
        exact hS.at'.cells
    refine wpList_append_own_wide _ hgd s x 30 ho base 39 i0 _ 3 32 Try.underlying30 hi0 hz0 hz1 hz2 rfl (by omega) v l.length (pcells l) hs hO.own ad q.length c (pcells q) hx (pcells_length q) hcells (pcells_one q) (by rw [hm]; omega) (by omega) hO.le ?_
    intro v' w' hown hgrow _
    refine h v' w' ⟨?_, ?_⟩ (grown_below hO.own hO.le hgrow)
    · rw [pcells_append, List.length_append]; exact hown
    · have := hgrow.size; have h2 := hO.le; omega
end Go.Proofs.Ytijkabnhedmimab
