/- Layer 22: rows that grow within a command under way. -/
import Derived.Test.YtgbkloihclbimaaDoorXc
import Derived.Deep.CutRange
namespace Go.Proofs.YtgbkloihclbimaaDoor
set_option maxRecDepth 100000
set_option linter.unusedVariables false
set_option linter.unusedSimpArgs false
open Go.RowKit
attribute [local go_sem ↓] Go.wp_at_zero Go.wp_at_succ
theorem at_stp {ops : Array Oper} {o : Oper} {a : Act} {K : Act → World → Prop} {Q : Exit → Act → World → Prop} {E' : Prop} {W : World} {f : Nat} {args : Array Operand} {ts : Array TypeId} (ho : o.op = .call { callee := .value (.func f), args := args, argTypes := ts }) (h : if Region.wanted o (yielded ops a.tmps) = true then Oper.wp Tryd.prog o a W K Q else E') : if Region.wanted o (yielded ops a.tmps) = true then Oper.wp Tryd.prog o a W K Q else E' := h
theorem at_sta {ops : Array Oper} {o : Oper} {a : Act} {K : Act → World → Prop} {Q : Exit → Act → World → Prop} {E' : Prop} {W : World} {args : Array Operand} {ts : Array TypeId} (ho : o.op = .call { callee := .builtin .append, args := args, argTypes := ts }) (h : if Region.wanted o (yielded ops a.tmps) = true then Oper.wp Tryd.prog o a W K Q else E') : if Region.wanted o (yielded ops a.tmps) = true then Oper.wp Tryd.prog o a W K Q else E' := h
theorem info3f : (Tryd.prog.info? 3).map (fun i => (i.zero, i.size, i.bytes)) = some (some (.int .i64 0), 1, 8) := by kernel_rfl
theorem info3 : ∃ i, Tryd.prog.info? 3 = some i ∧ i.zero = some (.int .i64 0) ∧ i.size = 1 ∧ i.bytes = 8 := by
  have := info3f
  cases hq : Tryd.prog.info? 3 with
  | none => rw [hq] at this; cases this
  | some i => rw [hq] at this; simp at this; exact ⟨i, rfl, this.1, this.2.1, this.2.2⟩
/-- what an append to a row of one type leaves -/
structure ApQ (M : Nat) (t : TypeId) (s n : Nat) (xs : List Value) (v' : Value) (w1 w' : World) : Prop where
  own : w'.ownsRow M t s v' n xs
  bel : Below M w1 w'
  oth : Lib.OthersKept t none w1 w'
theorem run_is {M : Nat} {w1 : World} {v : Value} {l : List Int} (n : Int) (hO : w1.ownsRow M 3 1 v l.length (ivs l)) (hle : M ≤ w1.heap.size) (hn : l.length ≤ 1000000000000) :
    ∃ ka kc w', (∀ ty, (Builtin.append_ #[32, 32] ty #[v, .slice (some ⟨w1.heap.size, 0, none⟩) 1 1]).run Tryd.prog (w1.alloc (.cells #[.int .i64 n] 3)) = .ok (.slice ka (l.length + 1) kc) w') ∧ ApQ M 3 1 (l.length + 1) (ivs (l ++ [n])) (.slice ka (l.length + 1) kc) w1 w' := by
  obtain ⟨i0, hi0, hz0, hz1, hz2⟩ := info3
  have hm : maxLen = 9223372036854775807 := rfl
  have o1 := hO.alloc (.cells #[.int .i64 n] 3)
  obtain ⟨v', w', hr, hown, hgrow, _⟩ := run_append_own_wide (P := Tryd.prog) (w := w1.alloc (.cells #[.int .i64 n] 3)) M 32 3 3 i0 _ 1 8 Tryd.underlying32 hi0 hz0 hz1 hz2 rfl (by omega) v l.length (ivs l) o1 ⟨w1.heap.size, 0, none⟩ 1 1 [.int .i64 n] rfl
      (World.news_of_block (cs := #[.int .i64 n]) (t := 3) (fr := (0, 0)) (heap_alloc_new w1 _)) (by simp [Value.oneCell']) (by rw [hm]; omega) (by omega) (by simp; omega)
  have hs : ∃ ka kc, v' = .slice ka (l.length + 1) kc := by
    rcases hown.2 with ⟨e, h0⟩ | ⟨g, cap, cur, e, _⟩
    · omega
    · exact ⟨_, _, e⟩
  obtain ⟨ka, kc, rfl⟩ := hs
  exact ⟨ka, kc, w', fun ty => hr, by unfold ivs at hown ⊢; rw [List.map_append]; exact hown, ((Below.refl _ _).alloc hle _).trans (grown_below o1 (by simp; omega) hgrow), ((Lib.OthersKept.refl 3 none w1).alloc _).grown hgrow (own_row o1)⟩
theorem run_ps {M : Nat} {w1 : World} {v : Value} {l : List En} (p : En) (hO : w1.ownsRow M 38 2 v l.length (pcells l)) (hle : M ≤ w1.heap.size) (hn : l.length ≤ 1000000000000) :
    ∃ ka kc w', (∀ ty, (Builtin.append_ #[31, 31] ty #[v, .slice (some ⟨w1.heap.size, 0, none⟩) 1 1]).run Tryd.prog (w1.alloc (.cells #[str p.key, str p.val] 38)) = .ok (.slice ka (l.length + 1) kc) w') ∧ ApQ M 38 2 (l.length + 1) (pcells (l ++ [p])) (.slice ka (l.length + 1) kc) w1 w' := by
  obtain ⟨i0, hi0, hz0, hz1, hz2⟩ := infoP
  have hm : maxLen = 9223372036854775807 := rfl
  have o1 := hO.alloc (.cells #[str p.key, str p.val] 38)
  obtain ⟨v', w', hr, hown, hgrow, _⟩ := run_append_own_wide (P := Tryd.prog) (w := w1.alloc (.cells #[str p.key, str p.val] 38)) M 31 38 38 i0 _ 2 32 Tryd.underlying31 hi0 hz0 hz1 hz2 rfl (by omega) v l.length (pcells l) o1 ⟨w1.heap.size, 0, none⟩ 1 1 [str p.key, str p.val] rfl
      (World.news_of_block (cs := #[str p.key, str p.val]) (t := 38) (fr := (0, 0)) (heap_alloc_new w1 _)) (by simp [Value.oneCell']) (by rw [hm]; omega) (by omega) (by simp; omega)
  have hs : ∃ ka kc, v' = .slice ka (l.length + 1) kc := by
    rcases hown.2 with ⟨e, h0⟩ | ⟨g, cap, cur, e, _⟩
    · omega
    · exact ⟨_, _, e⟩
  obtain ⟨ka, kc, rfl⟩ := hs
  exact ⟨ka, kc, w', fun ty => hr, by rw [pcells_append]; exact hown, ((Below.refl _ _).alloc hle _).trans (grown_below o1 (by simp; omega) hgrow), ((Lib.OthersKept.refl 38 none w1).alloc _).grown hgrow (own_row o1)⟩
theorem kept_own {M n s : Nat} {w w' : World} {v : Value} {xs : List Value} {t t' : TypeId} (h : w.ownsRow M t s v n xs) (ho : Lib.OthersKept t' none w w') (hne : t ≠ t') : w'.ownsRow M t s v n xs :=
  own_same h fun g hg => by
    obtain ⟨c, e⟩ := own_type h hg
    rw [e, ho g _ e (by simp) (fun cs fz q => by injection q with _ q _; exact hne q)]
theorem kept_box {w w' : World} {t' : TypeId} {g : Nat} {cs : Array Value} {t : TypeId} {fz : Nat × Nat} (h : w.heap[g]? = some (.cells cs t fz)) (ho : Lib.OthersKept t' none w w') (hne : t ≠ t') : w'.heap[g]? = some (.cells cs t fz) := ho g _ h (by simp) (fun cs fz q => by injection q with _ q _; exact hne q)
/-- the reader keeps where what lies below stays -/
theorem Rx.kept {w w' : World} {M g : Nat} {r : Rr} {a : Option Addr} {c : Nat} {t' : TypeId} (h : Rx w M g r a c) (ho : Lib.OthersKept t' none w w') (hb : Below M w w') (hne : 86 ≠ t') : Rx w' M g r a c :=
  ⟨kept_box h.box ho hne, fun k t hk => by
    obtain ⟨b, off, e, hb2, hc⟩ := h.tw k t hk
    exact ⟨b, off, e, hb2, by rw [hb.cell (p := ⟨b, off + k, none⟩) hb2]; exact hc⟩, h.ge, h.le, h.mx, h.sm⟩
def cK (c : Cm) (l : List Int) : Cm := { c with st := { c.st with kept := l } }
def cM (c : Cm) (l : List En) : Cm := { c with st := { c.st with mt := l } }
theorem CS.appK {w1 w2 : World} {M gc gr : Nat} {c : Cm} {r : Rr} {ma : Option Addr} {mc : Nat} {ka : Option Addr} {kc : Nat} {a : Option Addr} {ac : Nat} (h : CS w1 M gc gr c r ma mc ka kc a ac) {n : Int} {ka' : Option Addr} {kc' : Nat} (q : ApQ M 3 1 (c.st.kept.length + 1) (ivs (c.st.kept ++ [n])) (.slice ka' (c.st.kept.length + 1) kc') w1 w2) :
    w2.cell? ⟨gc, 10, none⟩ = some (.slice ka c.st.kept.length kc) ∧ w2.frozen? ⟨gc, 10, none⟩ = false ∧ CS (w2.setCell ⟨gc, 10, none⟩ (.slice ka' (c.st.kept.length + 1) kc')) M gc gr (cK c (c.st.kept ++ [n])) r ma mc ka' kc' a ac := by
  have hb : Bc w2 gc c ma mc ka kc := kept_box h.bc q.oth (by decide)
  have hbs : Bc (w2.setCell ⟨gc, 10, none⟩ (.slice ka' (c.st.kept.length + 1) kc')) gc (cK c (c.st.kept ++ [n])) ma mc ka' kc' := by
    unfold Bc
    rw [heap_setCell_same _ _ _ _ _ _ hb]
    simp [cK, ccs]
  refine ⟨(hb.cell (j := 10) rfl).1, (hb.cell (j := 10) rfl).2, hbs, ?_, ?_, ?_, h.ne, h.ge⟩
  · exact own_set (kept_own h.ow q.oth (by decide)) hb (by decide) _
  · have := own_set q.own hb (by decide) (j := 10) (.slice ka' (c.st.kept.length + 1) kc')
    simpa [cK] using this
  · exact (h.rx.kept q.oth q.bel (by decide)).oth (X := fun x => x = gc) ((Oth.refl _ _).set rfl) (fun b e => by rw [e]; exact h.ge) (fun e => h.ne e.symm)
theorem CS.appM {w1 w2 : World} {M gc gr : Nat} {c : Cm} {r : Rr} {ma : Option Addr} {mc : Nat} {ka : Option Addr} {kc : Nat} {a : Option Addr} {ac : Nat} (h : CS w1 M gc gr c r ma mc ka kc a ac) {n : En} {ma' : Option Addr} {mc' : Nat} (q : ApQ M 38 2 (c.st.mt.length + 1) (pcells (c.st.mt ++ [n])) (.slice ma' (c.st.mt.length + 1) mc') w1 w2) :
    w2.cell? ⟨gc, 7, none⟩ = some (.slice ma c.st.mt.length mc) ∧ w2.frozen? ⟨gc, 7, none⟩ = false ∧ CS (w2.setCell ⟨gc, 7, none⟩ (.slice ma' (c.st.mt.length + 1) mc')) M gc gr (cM c (c.st.mt ++ [n])) r ma' mc' ka kc a ac := by
  have hb : Bc w2 gc c ma mc ka kc := kept_box h.bc q.oth (by decide)
  have hbs : Bc (w2.setCell ⟨gc, 7, none⟩ (.slice ma' (c.st.mt.length + 1) mc')) gc (cM c (c.st.mt ++ [n])) ma' mc' ka kc := by
    unfold Bc
    rw [heap_setCell_same _ _ _ _ _ _ hb]
    simp [cM, ccs]
  refine ⟨(hb.cell (j := 7) rfl).1, (hb.cell (j := 7) rfl).2, hbs, ?_, ?_, ?_, h.ne, h.ge⟩
  · have := own_set q.own hb (by decide) (j := 7) (.slice ma' (c.st.mt.length + 1) mc')
    simpa [cM] using this
  · exact own_set (kept_own h.oi q.oth (by decide)) hb (by decide) _
  · exact (h.rx.kept q.oth q.bel (by decide)).oth (X := fun x => x = gc) ((Oth.refl _ _).set rfl) (fun b e => by rw [e]; exact h.ge) (fun e => h.ne e.symm)
theorem KO.app {gc gr : Nat} {w w' : World} {t : TypeId} (h : Lib.OthersKept t none w w') (ht : t = 38 ∨ t = 3) : KO gc gr w w' := fun k o a _ _ d e => h k o a (by simp) (by
  rcases ht with rfl | rfl
  · exact d
  · exact e)
end Go.Proofs.YtgbkloihclbimaaDoor
