/- lent: versions with marks behind them. -/
import Derived.Test.YtaonjmmdgfbceaaLnp
namespace Go.Proofs.Ytaonjmmdgfbceaa
set_option linter.unusedVariables false
set_option linter.unusedSimpArgs false
open Go.RowKit
attribute [local go_sem ↓] Go.wp_at_zero Go.wp_at_succ
attribute [local go_sem ↓] slPe
/-- versions of one's own, a mark behind each one's pairs -/
def Lm (base : Nat) (w : World) (v : Value) (L : List Vs) : Prop := ∃ R, Fo base w v R ∧ R.map (·.v) = L ∧ ∀ r ∈ R, r.z = [mk]
def mk1 : Vs := ⟨[109, 97, 114, 107], -77, false, [], []⟩
def mk2 : Vs := ⟨[], 0, false, [109, 97, 114, 107], []⟩
/-- and the two marks behind the list -/
def Le (base : Nat) (w : World) (v : Value) (L : List Vs) : Prop := ∃ R, Fo base w v (R ++ [⟨mk1, [], none, 0⟩, ⟨mk2, [], none, 0⟩]) ∧ R.map (·.v) = L ∧ ∀ r ∈ R, r.z = [mk]
theorem app_lm {ops : Array Oper} {rest : List Oper} {o : Oper} {a : Act} {Q : Exit → Act → World → Prop} {W : World} (hgd : o.guard = none) (s x : Operand) (ho : o.op = .call { callee := .builtin .append, args := #[s, x], argTypes := #[22, 22] })
    {base : Nat} {w w1 : World} {v : Value} {L : List Vs} {g : Nat} (u : Vs) {ma : Option Addr} {mn mc : Nat} (hu : mn = u.l.length) (hW : W = w1.alloc (.cells #[str u.key, .int .i64 u.seq, .bool u.mkr, str u.data, .slice ma mn mc] 33)) (hC : Lm base w v L) (hb : Below w.heap.size w w1) (hm : Ow w.heap.size w1 (.slice ma (mn + 1) mc) (u.l ++ [mk])) (hg : g = w1.heap.size) (hn : L.length ≤ 1954687338260)
    (hs : a.eval s = v) (hx : a.eval x = .slice (some ⟨g, 0, none⟩) 1 1)
    (h : ∀ v' w', Lm base w' v' (L ++ [u]) → Below base w w' → wpList Try.prog ops Q rest (a.put o.dst v') w') :
    wpList Try.prog ops Q (o :: rest) a W := by
  obtain ⟨R, h1, h2, h3⟩ := hC
  subst hu
  have hl : R.length = L.length := by rw [← h2, List.length_map]
  have hA : Ad base w1 v R ⟨u, [mk], ma, mc⟩ := h1.ad hb hm
  refine app_v hgd s x ho ⟨u, [mk], ma, mc⟩ hW hA hg (by omega) hs hx ?_
  intro g' cap w' f b _ _
  refine h _ w' ⟨_, f, by rw [List.map_append, h2]; rfl, ?_⟩ ((hb.mono h1.le).trans b)
  intro r hr
  rcases List.mem_append.1 hr with q | q
  · exact h3 r q
  · simp at q; subst q; rfl
theorem app_le {ops : Array Oper} {rest : List Oper} {o : Oper} {a : Act} {Q : Exit → Act → World → Prop} {W : World} (hgd : o.guard = none) (s x : Operand) (ho : o.op = .call { callee := .builtin .append, args := #[s, x], argTypes := #[22, 22] })
    {base : Nat} {w : World} {v : Value} {L : List Vs} {g : Nat} (hW : W = w.alloc (.cells (rcells [⟨mk1, [], none, 0⟩, ⟨mk2, [], none, 0⟩]).toArray 33)) (hC : Lm base w v L) (hg : g = w.heap.size) (hn : L.length ≤ 1954687338260)
    (hs : a.eval s = v) (hx : a.eval x = .slice (some ⟨g, 0, none⟩) 2 2)
    (h : ∀ v' w', Le base w' v' L → Below base w w' → wpList Try.prog ops Q rest (a.put o.dst v') w') :
    wpList Try.prog ops Q (o :: rest) a W := by
  obtain ⟨R, h1, h2, h3⟩ := hC
  have hl : R.length = L.length := by rw [← h2, List.length_map]
  obtain ⟨i0, hi0, hz0, hz1, hz2⟩ := infoV
  subst hW hg
  have hm : maxLen = 9223372036854775807 := rfl
  refine wpList_append_lies _ hgd s x 22 ho base 33 i0 _ 5 72 Try.underlying22 hi0 hz0 hz1 hz2 rfl (by omega) v R.length (rcells R) hs (h1.own.alloc _) _ 2 2 (rcells [⟨mk1, [], none, 0⟩, ⟨mk2, [], none, 0⟩]) hx rfl
    (World.news_of_block (cs := (rcells [⟨mk1, [], none, 0⟩, ⟨mk2, [], none, 0⟩]).toArray) (t := 33) (fr := (0, 0)) (heap_alloc_new w _)) (rcells_one _) (by omega) (by rw [hm]; omega) (by omega) (by have := h1.le; simp; omega) _ rfl ?_
  intro g2 cap2 w' hown hgrow hat hlt
  have hk : ∀ k, k < w.heap.size → v.ownBlock ≠ some k → w'.heap[k]? = w.heap[k]? := fun k hk hne => by rw [hgrow.block k (by simp; omega) (Ne.symm hne), heap_alloc_old _ _ hk]
  have hsz : w.heap.size ≤ w'.heap.size := by have := hgrow.size; simp at this; omega
  have hnone : ∀ (k : Nat) (r : Rv), [(⟨mk1, [], none, 0⟩ : Rv), ⟨mk2, [], none, 0⟩][k]? = some r → r.mv = .slice none 0 0 ∧ r.v.l ++ r.z = [] := fun k r hr => by
    have := List.mem_of_getElem? hr
    simp at this
    rcases this with rfl | rfl <;> exact ⟨rfl, rfl⟩
  refine h _ w' ⟨R, ?_, h2, h3⟩ ?_
  · refine Fo.join (B := w.heap.size) h1 (fun k r hr => ?_) (fun j k r r' _ hj hk' b hb => ?_) h1.le h1.low hsz hk hown
    · obtain ⟨e1, e2⟩ := hnone k r hr
      rw [e1, e2]; exact Ow.nil _ _ (Nat.le_refl _)
    · rw [(hnone j r hj).1] at hb; cases hb
  · exact ((Below.refl _ _).alloc h1.le _).trans (grown_below (h1.own.alloc _) (by have := h1.le; simp; omega) hgrow)
theorem Lm.nil (w : World) (base : Nat) (h : base ≤ w.heap.size) : Lm base w (.slice none 0 0) [] := ⟨[], Fo.nil w base h, rfl, by simp⟩
theorem Lm.later {base : Nat} {w w' : World} {v : Value} {L : List Vs} (h : Lm base w v L) (hb : Below w.heap.size w w') : Lm base w' v L := by
  obtain ⟨R, h1, h2, h3⟩ := h
  exact ⟨R, h1.later hb, h2, h3⟩
end Go.Proofs.Ytaonjmmdgfbceaa
