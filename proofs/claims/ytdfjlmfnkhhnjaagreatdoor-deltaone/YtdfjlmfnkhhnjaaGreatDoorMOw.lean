/- own: the document's manifest as the program's, with marks behind each list. -/
import Derived.Test.YtdfjlmfnkhhnjaaGreatDoorGq
import Derived.Test.YtdfjlmfnkhhnjaaGreatDoorGt
namespace Go.Proofs.YtdfjlmfnkhhnjaaGreatDoor
set_option maxRecDepth 100000
set_option linter.unusedVariables false
set_option linter.unusedSimpArgs false
open Go.RowKit
open Go.Proofs.YtdfjlmfnkhhnjaaGreatDoorH (hv hv_length hv_one hv_eq)
attribute [local go_sem ↓] Go.wp_at_zero Go.wp_at_succ bsIe bdIe slPe ldQe stQe
attribute [local go_sem] run_bsI
noncomputable def slI (v : Value) (a b c : Option Value) : Sem Value := Instr.slice 26 v a b c
theorem slIe (v : Value) (a b c : Option Value) : Instr.slice 26 v a b c = slI v a b c := rfl
attribute [local go_sem ↓] slIe
abbrev mkE : En := ⟨[109, 97, 114, 107], []⟩
/-- what own tells: a list with a mark behind it, marks behind the pairs -/
structure Mk (base : Nat) (w : World) (v : Value) (R S : List Ri) : Prop where
  own : w.ownsRow base 46 37 v (R ++ S).length (rics (R ++ S))
  le : base ≤ w.heap.size
  met : ∀ (k : Nat) (r : Ri), R[k]? = some r → Ow base w (.slice r.2.1 (r.1.l.length + 1) r.2.2) (r.1.l ++ [mkE])
theorem Mk.stay {base : Nat} {w w' : World} {v : Value} {R S : List Ri} (h : Mk base w v R S) (hs : w.heap.size ≤ w'.heap.size) (hb : ∀ g, base ≤ g → g < w.heap.size → w'.heap[g]? = w.heap[g]?) : Mk base w' v R S :=
  ⟨own_keep h.own (fun g hg => hb g (h.own.lt g hg).1 (h.own.lt g hg).2), Nat.le_trans h.le hs, fun k r hk => (h.met k r hk).stay hs (fun g hg => hb g ((h.met k r hk).own.lt g hg).1 ((h.met k r hk).own.lt g hg).2)⟩
theorem Mk.later {base : Nat} {w w' : World} {v : Value} {R S : List Ri} (h : Mk base w v R S) (hb : Below w.heap.size w w') : Mk base w' v R S := h.stay hb.size (fun g _ hg => hb.block g hg)
theorem Mk.base {b b' : Nat} {w : World} {v : Value} {R S : List Ri} (h : Mk b w v R S) (hb : b' ≤ b) : Mk b' w v R S := by
  refine ⟨⟨h.own.1, ?_⟩, Nat.le_trans hb h.le, fun k r hk => (h.met k r hk).base hb⟩
  rcases h.own.2 with e | ⟨g, cap, cur, e1, e2, e3⟩
  · exact Or.inl e
  · exact Or.inr ⟨g, cap, cur, e1, Nat.le_trans hb e2, e3⟩
/-- what is kept while it is made -/
structure Ok (w W : World) (m : Ma) (a : Option Addr) (cap : Nat) (v : Value) (R : List Ri) : Prop where
  g0 : Bn3 W w.heap.size m.since m.next (.slice a m.items.length cap)
  g1 : Bm3 W (w.heap.size + 1) 0 0 (.slice none 0 0)
  mq : Mk (w.heap.size + 2) W v R []
  bel : Below w.heap.size w W
theorem Ok.later {w W W' : World} {m : Ma} {a : Option Addr} {cap : Nat} {v : Value} {R : List Ri} (h : Ok w W m a cap v R) (hb : Below W.heap.size W W') : Ok w W' m a cap v R := ⟨h.g0.later hb, h.g1.later hb, h.mq.later hb, h.bel.trans (hb.mono h.bel.size)⟩
/-- one item more, with pairs of its own and a mark behind them -/
theorem Ok.more {w W W1 w2 : World} {m : Ma} {a : Option Addr} {cap : Nat} {v v' : Value} {R : List Ri} (r : Ri) (h : Ok w W m a cap v R) (hb : Below W.heap.size W W1)
    (ho : Ow W.heap.size W1 (.slice r.2.1 (r.1.l.length + 1) r.2.2) (r.1.l ++ [mkE])) (hown : w2.ownsRow (w.heap.size + 2) 46 37 v' (R.length + 1) (rics (R ++ [r]))) (hs : W1.heap.size ≤ w2.heap.size) (h2 : Below (w.heap.size + 2) W1 w2)
    (hk : ∀ x, x < W1.heap.size → v.ownBlock ≠ some x → w2.heap[x]? = W1.heap[x]?) : Ok w w2 m a cap v' (R ++ [r]) := by
  have h1 := h.later hb
  have hapt : ∀ base v2 l, Ow base W1 v2 l → Ow base w2 v2 l := fun base v2 l hx => hx.stay hs (fun g hg => hk g (hx.own.lt g hg).2 (fun q => own_apart hx.own h1.mq.own (by decide) hg q))
  refine ⟨?_, h1.g1.oth (h2.block _ (by omega)), ⟨by simpa using hown, by have := h.mq.le; have := hb.size; omega, fun k q hq => ?_⟩, h1.bel.trans (h2.mono (by omega))⟩
  · have := h1.g0; unfold Bn3 at this ⊢; rw [h2.block _ (by omega)]; exact this
  by_cases hkl : k < R.length
  · rw [List.getElem?_append_left hkl] at hq
    exact hapt _ _ _ (h1.mq.met k q hq)
  · have hkl' : k = R.length := by
      have := (List.getElem?_eq_some_iff.1 hq).1
      simp at this; omega
    subst hkl'
    simp at hq
    subst hq
    exact (hapt _ _ _ ho).base h.mq.le
end Go.Proofs.YtdfjlmfnkhhnjaaGreatDoor
