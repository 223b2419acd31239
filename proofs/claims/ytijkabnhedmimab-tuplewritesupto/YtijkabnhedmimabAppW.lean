/- A part put behind a list, in the walk's own world. -/
import Derived.Test.YtijkabnhedmimabRd
import Derived.Test.YtijkabnhedmimabHead
import Derived.RegionCalls
import Derived.Deep.RegionHeld3
namespace Go.Proofs.Ytijkabnhedmimab
set_option linter.unusedVariables false
set_option linter.unusedSimpArgs false
open Go.RowKit
theorem Ow.drew {base : Nat} {w : World} {v : Value} {l : List Pt} (h : Ow base w v l) : Ow base w.drew v l := ⟨h.own.drew, h.le⟩
theorem app_partd {ops : Array Oper} {rest : List Oper} {o : Oper} {a : Act} {Q : Exit → Act → World → Prop} {base : Nat} {w : World} {v : Value} {l : List Pt} {g : Nat} (p : Pt) (hO : Ow base w v l) (hg : g = w.heap.size) (hn : l.length ≤ 1000000000000)
    (hgd : o.guard = none) (s x : Operand) (ho : o.op = .call { callee := .builtin .append, args := #[s, x], argTypes := #[30, 30] })
    (hs : a.eval s = v) (hx : a.eval x = .slice (some ⟨g, 0, none⟩) 1 1)
    (h : ∀ v' w', Ow base w' v' (l ++ [p]) → Below base w w' → wpList Try.prog ops Q rest (a.put o.dst v') w') :
    wpList Try.prog ops Q (o :: rest) a (w.alloc (.cells #[.int .i64 p.kind, str p.text, .int .i64 p.n] 39)).drew :=
  app_part (w := w.drew) p hO.drew hg hn hgd s x ho hs hx fun v' w' h1 h2 _ => h v' w' h1 ((Below.refl base w).drew.trans h2)
theorem app_partw {ops : Array Oper} {rest : List Oper} {o : Oper} {a : Act} {Q : Exit → Act → World → Prop} {W : World} (hgd : o.guard = none) (s x : Operand) (ho : o.op = .call { callee := .builtin .append, args := #[s, x], argTypes := #[30, 30] })
    {base : Nat} {w : World} {v : Value} {l : List Pt} {g : Nat} (p : Pt) (hW : W = (w.alloc (.cells #[.int .i64 p.kind, str p.text, .int .i64 p.n] 39)).drew) (hO : Ow base w v l) (hg : g = w.heap.size) (hn : l.length ≤ 1000000000000)
    (hs : a.eval s = v) (hx : a.eval x = .slice (some ⟨g, 0, none⟩) 1 1)
    (h : ∀ v' w', Ow base w' v' (l ++ [p]) → Below base w w' → wpList Try.prog ops Q rest (a.put o.dst v') w') :
    wpList Try.prog ops Q (o :: rest) a W := by
  subst hW
  exact app_partd p hO hg hn hgd s x ho hs hx h
theorem step_part {ops : Array Oper} {o : Oper} {a : Act} {K : Act → World → Prop} {Q : Exit → Act → World → Prop} {E : Prop} {W : World} (hgd : o.guard = none) (s x : Operand) (ho : o.op = .call { callee := .builtin .append, args := #[s, x], argTypes := #[30, 30] })
    {base : Nat} {w : World} {v : Value} {l : List Pt} {g : Nat} (p : Pt) (hW : W = (w.alloc (.cells #[.int .i64 p.kind, str p.text, .int .i64 p.n] 39)).drew) (hO : Ow base w v l) (hg : g = w.heap.size) (hn : l.length ≤ 1000000000000)
    (hs : a.eval s = v) (hx : a.eval x = .slice (some ⟨g, 0, none⟩) 1 1)
    (h : ∀ v' w', Ow base w' v' (l ++ [p]) → Below base w w' → K (a.put o.dst v') w') :
    if Region.wanted o (yielded ops a.tmps) = true then Oper.wp Try.prog o a W K Q else E := by
  obtain ⟨i0, hi0, hz0, hz1, hz2⟩ := infoP
  subst hg hW
  have hm : maxLen = 9223372036854775807 := rfl
  refine step_append_lies _ hgd s x 30 ho base 39 i0 _ 3 32 Try.underlying30 hi0 hz0 hz1 hz2 rfl (by omega) v l.length (pcells l) hs ((hO.own.alloc _).drew) _ 1 1 (pcs p) hx rfl
    (World.news_of_block (cs := #[.int .i64 p.kind, str p.text, .int .i64 p.n]) (t := 39) (fr := (0, 0)) (heap_alloc_new w _)) (by simp [pcs, Value.oneCell']) (by omega) (by rw [hm]; omega) (by omega) (by have := hO.le; simp; omega) (w.heap.size + 1) (by simp) ?_
  intro g cap w' hown hgrow _ _
  refine h _ w' ⟨?_, ?_⟩ ?_
  · rw [pcells_append, List.length_append]
    have : pcells [p] = pcs p := by simp [pcells]
    rw [this]; exact hown
  · have := hgrow.size; have h2 := hO.le; simp at this; omega
  · exact (((Below.refl _ _).alloc hO.le _).drew).trans (grown_below ((hO.own.alloc _).drew) (by have := hO.le; simp; omega) hgrow)
end Go.Proofs.Ytijkabnhedmimab
