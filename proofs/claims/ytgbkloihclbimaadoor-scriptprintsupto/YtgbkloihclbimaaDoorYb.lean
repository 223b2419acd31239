/- Layer 22: told, the program's commands as the document's. -/
import Derived.Test.YtgbkloihclbimaaDoorWy
namespace Go.Proofs.YtgbkloihclbimaaDoor
set_option maxRecDepth 100000
set_option linter.unusedVariables false
set_option linter.unusedSimpArgs false
open Go.RowKit
attribute [local go_sem ↓] Go.wp_at_zero Go.wp_at_succ
/-- the append of a row to nothing, as a step of a drawn region -/
theorem step_nilM {ops : Array Oper} {o : Oper} {a : Act} {K : Act → World → Prop} {Q : Exit → Act → World → Prop} {E : Prop} {W : World} {ma : Option Addr} {mc : Nat} {l : List En} (hgd : o.guard = none) (s x : Operand) (ho : o.op = .call { callee := .builtin .append, args := #[s, x], argTypes := #[31, 31] })
    (hs : a.eval s = .slice none 0 0) (hx : a.eval x = .slice ma l.length mc) (hS : Sl W ma mc l) (hn : l.length ≤ 4400000000000)
    (h : ∀ va vc W', W'.ownsRow W.heap.size 38 2 (.slice va l.length vc) l.length (pcells l) → Below W.heap.size W W' → K (a.put o.dst (.slice va l.length vc)) W') : if Region.wanted o (yielded ops a.tmps) = true then Oper.wp Tryd.prog o a W K Q else E := by
  obtain ⟨va, vc, W', hr, hown, hb⟩ := run_nilM W ma mc l hS hn
  exact step_run hgd s x ho hs hx (hr _) (h va vc W' hown hb)
theorem step_nilK {ops : Array Oper} {o : Oper} {a : Act} {K : Act → World → Prop} {Q : Exit → Act → World → Prop} {E : Prop} {W : World} {ma : Option Addr} {mc : Nat} {l : List Int} (hgd : o.guard = none) (s x : Operand) (ho : o.op = .call { callee := .builtin .append, args := #[s, x], argTypes := #[32, 32] })
    (hs : a.eval s = .slice none 0 0) (hx : a.eval x = .slice ma l.length mc) (hS : Si W ma mc l) (hn : l.length ≤ 17000000000000)
    (h : ∀ va vc W', W'.ownsRow W.heap.size 3 1 (.slice va l.length vc) l.length (ivs l) → Below W.heap.size W W' → K (a.put o.dst (.slice va l.length vc)) W') : if Region.wanted o (yielded ops a.tmps) = true then Oper.wp Tryd.prog o a W K Q else E := by
  obtain ⟨va, vc, W', hr, hown, hb⟩ := run_nilK W ma mc l hS hn
  exact step_run hgd s x ho hs hx (hr _) (h va vc W' hown hb)
/-- a box of the document's step, made and not yet filled -/
def Zb (W : World) (g : Nat) : Prop := W.heap[g]? = some (.cells zS 48 (0, 0))
theorem Zb.later {W W' : World} {g : Nat} (hb : Below W.heap.size W W') (h : Zb W g) : Zb W' g := by
  unfold Zb at *
  rw [hb.block _ (lt_of_block h)]; exact h
theorem Zb.alloc {X W' : World} (hb : Below (X.alloc (.cells zS 48)).heap.size (X.alloc (.cells zS 48)) W') : Zb W' X.heap.size := Zb.later hb (heap_alloc_new X _)
/-- and it lies behind a bound -/
structure Zc (n : Nat) (W : World) (g : Nat) : Prop where
  z : Zb W g
  ge : n ≤ g
theorem Zc.later {n : Nat} {W W' : World} {g : Nat} (hb : Below W.heap.size W W') (h : Zc n W g) : Zc n W' g := ⟨h.z.later hb, h.ge⟩
theorem Zc.alloc {n : Nat} {X W' : World} (hn : n ≤ X.heap.size) (hb : Below (X.alloc (.cells zS 48)).heap.size (X.alloc (.cells zS 48)) W') : Zc n W' X.heap.size := ⟨Zb.alloc hb, hn⟩
theorem Zc.allocD {wa W' : World} (hb : Below (wa.drew.alloc (.cells zS 48)).heap.size (wa.drew.alloc (.cells zS 48)) W') : Zc wa.heap.size W' wa.heap.size := ⟨Zb.alloc (X := wa.drew) hb, Nat.le_refl _⟩
theorem Zc.allocE {wa W' : World} (hb : Below (wa.alloc (.cells zS 48)).drew.heap.size (wa.alloc (.cells zS 48)).drew W') : Zc wa.heap.size W' wa.heap.size := ⟨Zb.later hb (heap_alloc_new wa _), Nat.le_refl _⟩
theorem sQex (w : World) (g : Nat) (c : Cm) (ma : Option Addr) (mc : Nat) (ka : Option Addr) (kc : Nat) : ∃ W, W = w.setCells g 0 (scl c ma mc ka kc).toList := ⟨_, rfl⟩
noncomputable def sQ (w : World) (g : Nat) (c : Cm) (ma : Option Addr) (mc : Nat) (ka : Option Addr) (kc : Nat) : World := Classical.choose (sQex w g c ma mc ka kc)
theorem sQ_eq (w : World) (g : Nat) (c : Cm) (ma : Option Addr) (mc : Nat) (ka : Option Addr) (kc : Nat) : sQ w g c ma mc ka kc = w.setCells g 0 (scl c ma mc ka kc).toList := Classical.choose_spec (sQex w g c ma mc ka kc)
theorem run_stQ2 {w : World} {g : Nat} (h : Zb w g) (c : Cm) (ma : Option Addr) (mc : Nat) (ka : Option Addr) (kc : Nat) : (stQ (.pointer (some ⟨g, 0, none⟩)) (.agg (scl c ma mc ka kc))).run Tryd.prog w = .ok () (sQ w g c ma mc ka kc) := by
  unfold stQ
  rw [sQ_eq]
  exact run_storeAt_mid (P := Tryd.prog) w g 0 48 (scl c ma mc ka kc) (there_of_row h 0 (Nat.le_refl _)) infoQS (scl_one ..)
theorem sQ_heap {w : World} {g : Nat} (h : Zb w g) (c : Cm) (ma : Option Addr) (mc : Nat) (ka : Option Addr) (kc : Nat) : (sQ w g c ma mc ka kc).heap[g]? = some (.cells (scl c ma mc ka kc) 48 (0, 0)) := by
  have e : (scl c ma mc ka kc).toList.toArray = scl c ma mc ka kc := Array.toArray_toList
  have hl : (scl c ma mc ka kc).toList.length = 8 := rfl
  have hz : zS.size = 8 := rfl
  rw [sQ_eq]
  generalize scl c ma mc ka kc = X at *
  rw [heap_setCells _ _ _ _ h, lay_all _ _ (by rw [hz, hl]), e]
theorem sQ_oth (w : World) (g : Nat) (c : Cm) (ma : Option Addr) (mc : Nat) (ka : Option Addr) (kc : Nat) : Oth (fun x => x = g) w (sQ w g c ma mc ka kc) := by rw [sQ_eq]; exact oth_setCells (X := fun x => x = g) (g := g) rfl _ _ _ (Oth.refl _ _)
theorem sQ_bel {wa W : World} {g : Nat} (hb : Below wa.heap.size wa W) (hz : Zc wa.heap.size W g) (c : Cm) (ma : Option Addr) (mc : Nat) (ka : Option Addr) (kc : Nat) : Below wa.heap.size wa (sQ W g c ma mc ka kc) := (sQ_oth W g c ma mc ka kc).bel hb (fun b q => by rw [show b = g from q]; exact hz.ge)
/-- what stands behind a step's copy -/
structure TQ (wr W : World) (c : Cm) (g : Nat) (ma : Option Addr) (mc : Nat) (ka : Option Addr) (kc : Nat) : Prop where
  bel : Below wr.heap.size wr W
  box : W.heap[g]? = some (.cells (scl c ma mc ka kc) 48 (0, 0))
  rows : RowsOf wr.heap.size W c ma mc ka kc
theorem own_on {base n sz : Nat} {W W' : World} {v : Value} {e : TypeId} {xs : List Value} (h : W.ownsRow base e sz v n xs) (hb : Below W.heap.size W W') : W'.ownsRow base e sz v n xs := own_same h fun g hg => hb.block g (h.lt g hg).2
theorem TQ.ofAlloc {wr wa W : World} {c : Cm} {ma : Option Addr} {mc : Nat} {ka : Option Addr} {kc : Nat} (ba : Below wr.heap.size wr wa) (hb : Below wa.heap.size wa W)
    (hm : W.ownsRow wa.heap.size 38 2 (.slice ma c.st.mt.length mc) c.st.mt.length (pcells c.st.mt)) (hk : W.ownsRow wa.heap.size 3 1 (.slice ka c.st.kept.length kc) c.st.kept.length (ivs c.st.kept)) : TQ wr (W.alloc (.cells (scl c ma mc ka kc) 48)) c W.heap.size ma mc ka kc :=
  ⟨(below_seq ba hb).alloc (below_seq ba hb).size _, heap_alloc_new _ _, (own_base hm ba.size).alloc _, (own_base hk ba.size).alloc _⟩
theorem TQ.ofStore {wr wa W : World} {c : Cm} {g : Nat} {ma : Option Addr} {mc : Nat} {ka : Option Addr} {kc : Nat} (ba : Below wr.heap.size wr wa) (hb : Below wa.heap.size wa W) (hz0 : Zc wa.heap.size W g)
    (hm : W.ownsRow wa.heap.size 38 2 (.slice ma c.st.mt.length mc) c.st.mt.length (pcells c.st.mt)) (hk : W.ownsRow wa.heap.size 3 1 (.slice ka c.st.kept.length kc) c.st.kept.length (ivs c.st.kept)) : TQ wr (sQ W g c ma mc ka kc) c g ma mc ka kc := by
  have ho := sQ_oth W g c ma mc ka kc
  have hz := hz0.z
  have hg := Nat.le_trans ba.size hz0.ge
  have key : ∀ (x : Value) (n s : Nat) (xs : List Value) (t : TypeId) (b0 : Nat), t ≠ 48 → W.ownsRow b0 t s x n xs → (sQ W g c ma mc ka kc).ownsRow b0 t s x n xs := fun x n s xs t b0 ht h => own_same h fun k hk2 => ho.block k (h.lt k hk2).2 (fun q => by
    obtain ⟨c1, e1⟩ := own_type h hk2
    have q' : k = g := q
    rw [q'] at e1
    unfold Zb at hz
    rw [e1] at hz
    injection hz with e2
    injection e2 with _ e3 _
    exact ht e3)
  exact ⟨ho.bel (below_seq ba hb) (fun b q => by rw [show b = g from q]; exact hg), sQ_heap hz .., own_base (key _ _ _ _ _ _ (by decide) hm) ba.size, own_base (key _ _ _ _ _ _ (by decide) hk) ba.size⟩
/-- what stands ahead of the append of a copy -/
theorem TQ.at {wr W W' : World} {c : Cm} {g : Nat} {ma : Option Addr} {mc : Nat} {ka : Option Addr} {kc : Nat} (h : TQ wr W c g ma mc ka kc) {r : Cr} {b o : Nat} (hr : wr.rangeAt b o (ccl r)) (hlt : b < wr.heap.size) (hb : Below W.heap.size W W') :
    Below W.heap.size W W' ∧ W'.cell? ⟨b, o, none⟩ = some (.int .i64 r.c.kind) ∧ W'.cell? ⟨b, o + 1, none⟩ = some (.int .i64 r.c.sectors) ∧ W'.cell? ⟨b, o + 2, none⟩ = some (.int .i64 r.c.size) ∧ W'.cell? ⟨b, o + 11, none⟩ = some (str r.c.bucket) ∧ (ldQ (.pointer (some ⟨g, 0, none⟩))).run Tryd.prog W' = .ok (.agg (scl c ma mc ka kc)) W' := by
  have key : ∀ j v, (ccl r)[j]? = some v → W'.cell? ⟨b, o + j, none⟩ = some v := fun j v hv => by
    rw [(below_seq h.bel hb).cell (p := ⟨b, o + j, none⟩) hlt]; exact hr j v hv
  refine ⟨hb, key 0 _ rfl, key 1 _ rfl, key 2 _ rfl, key 11 _ rfl, run_ldQ ?_⟩
  rw [hb.block _ (lt_of_block h.box)]; exact h.box
end Go.Proofs.YtgbkloihclbimaaDoor
