/- The record that a text begins with: what panics is caught. -/
import Derived.Test.YtokkoacfmdnmaaaDoorCut
import Derived.Test.YtokkoacfmdnmaaaDoorLead
import Derived.Defers
import Derived.Recover
import Derived.Laws.Pointers
namespace Go.Proofs.YtokkoacfmdnmaaaDoor
set_option linter.unusedVariables false
set_option linter.unusedSimpArgs false
open Go.RowKit
theorem catch_panicking (p : Addr) (x : Int) (u : TypeId) (pv : Value) (older : List PanicEntry) (w : World) (hc : w.cell? p = some (.int .i64 x)) (hz : w.frozen? p = false) :
    CallsD Tryd.prog 26 #[.pointer (some p)] (.panicking ({ v := .iface u pv, recovered := false } :: older)) w fun e u' w' =>
      e = .returned (.tuple #[]) ∧ u' = .panicking ({ v := .iface u pv, recovered := true } :: older) ∧ w' = w.setCell p (.int .i64 4) := by
  refine callsD_of_wpS Tryd.func26 rfl fun c₀ cs hu => ?_
  apply wpS_seq
  apply wpS_region
  simp [wpOpsS, go_sem, recoverD, hu, Tryd.ntmps26, Exit.thenS]
  refine wpS_cond (t := true) (by simp [Act.eval, Array.replicate]) ?_
  simp only [if_true]
  apply wpS_region
  simp [wpOpsS, go_sem, hc, hz, bodyPostS, results, Tryd.results26]
theorem catch_idle (p : Addr) (w : World) :
    CallsD Tryd.prog 26 #[.pointer (some p)] .returning w fun e u' w' => e = .returned (.tuple #[]) ∧ u' = .returning ∧ w' = w := by
  refine callsD_of_wpS Tryd.func26 rfl fun c₀ cs hu => ?_
  apply wpS_seq
  apply wpS_region
  simp [wpOpsS, go_sem, recoverD, hu, Tryd.ntmps26, Exit.thenS]
  refine wpS_cond (t := false) (by simp [Act.eval, Array.replicate]) ?_
  simp only [Bool.false_eq_true, if_false]
  refine wpS_of_wp (wp_skip ?_)
  cases c₀
  simp_all [bodyPostS, results, Tryd.results26]
/-- What the reading tells. -/
def Told (l : List UInt8) (w : World) (e : Ending) (w' : World) : Prop :=
  ∃ (k v : ByteArray) (n er : Int), e = .returned (.tuple #[.string k, .string v, .int .i64 n, .int .i64 er]) ∧
    ((er = 0 ∧ Rd l k.data.toList v.data.toList ∧ n = (LEN (nn k.data.toList v.data.toList) : Nat)) ∨ (er = 4 ∧ ∀ x y, ¬ Rd l x y)) ∧ Below w.heap.size w w'
/-- The named error's own variable, in its world. -/
structure ES (w W : World) : Prop where
  bel : Below w.heap.size w W
  cell : W.cell? ⟨w.heap.size, 0, none⟩ = some (.int .i64 0)
  frz : W.frozen? ⟨w.heap.size, 0, none⟩ = false
  lt : w.heap.size < W.heap.size
theorem ES.made (w : World) : ES w (w.alloc (.cells #[.int .i64 0] 23)) :=
  ⟨(Below.refl _ _).alloc (Nat.le_refl _) _, by rw [World.cell?_alloc_new]; rfl, World.frozen?_alloc_new _ _ _ _, by simp⟩
theorem ES.next {w W W2 : World} (h : ES w W) (b : Below W.heap.size W W2) : ES w W2 :=
  ⟨below_seq h.bel b, (b.cell (p := ⟨w.heap.size, 0, none⟩) h.lt).trans h.cell, (b.frozen (p := ⟨w.heap.size, 0, none⟩) h.lt).trans h.frz, Nat.lt_of_lt_of_le h.lt b.size⟩
theorem door_panic {l : List UInt8} {w W : World} {tmps : Array Value} (k v : ByteArray) (n : Int) (hE : ES w W) (h2 : tmps.getD 2 undef = .string k) (h3 : tmps.getD 3 undef = .string v) (h4 : tmps.getD 4 undef = .int .i64 n)
    (h5 : tmps.getD 5 undef = .pointer (some ⟨w.heap.size, 0, none⟩)) (hno : ∀ x y, ¬ Rd l x y) :
    bodyPostD Tryd.prog Tryd.f16 (Told l w) (Exit.panic [{ v := .iface 23 (.int .i64 4), recovered := false }])
      { tmps := tmps, defers := [{ target := Target.fn (Fn.func 26) #[.pointer (some ⟨w.heap.size, 0, none⟩)], args := #[] }] } W := by
  refine leaves_cons (f := 26) (args := #[.pointer (some ⟨w.heap.size, 0, none⟩)]) (by simp) (by simp [go_sem]) ?_
  refine (catch_panicking ⟨w.heap.size, 0, none⟩ 0 23 _ [] _ hE.cell hE.frz).mono ?_
  rintro e u' w'' ⟨rfl, rfl, rfl⟩
  have hc := hE.cell
  have hz := hE.frz
  have hT : Told l w (.returned (.tuple #[.string k, .string v, .int .i64 n, .int .i64 4])) (W.setCell ⟨w.heap.size, 0, none⟩ (.int .i64 4)) :=
    ⟨k, v, n, 4, rfl, Or.inr ⟨rfl, hno⟩, hE.bel.setCell (Nat.le_refl _) _⟩
  simp only [Array.getD_eq_getD_getElem?] at h2 h3 h4 h5
  simp [Leaves, settle, results, Tryd.results16, go_sem, h2, h3, h4, h5, hc, hz]
  exact hT
theorem door_ret {l : List UInt8} {w W : World} {tmps : Array Value} (k v : ByteArray) (n : Int) (hb : Below w.heap.size w W) (hcell : W.cell? ⟨w.heap.size, 0, none⟩ = some (.int .i64 0)) (h2 : tmps.getD 2 undef = .string k) (h3 : tmps.getD 3 undef = .string v) (h4 : tmps.getD 4 undef = .int .i64 n)
    (h5 : tmps.getD 5 undef = .pointer (some ⟨w.heap.size, 0, none⟩)) (hR : Rd l k.data.toList v.data.toList ∧ n = (LEN (nn k.data.toList v.data.toList) : Nat)) :
    bodyPostD Tryd.prog Tryd.f16 (Told l w) Exit.ret
      { tmps := tmps, defers := [{ target := Target.fn (Fn.func 26) #[.pointer (some ⟨w.heap.size, 0, none⟩)], args := #[] }] } W := by
  refine leaves_cons (f := 26) (args := #[.pointer (some ⟨w.heap.size, 0, none⟩)]) (by simp) (by simp [go_sem]) ?_
  refine (catch_idle ⟨w.heap.size, 0, none⟩ _).mono ?_
  rintro e u' w'' ⟨rfl, rfl, rfl⟩
  have hT : Told l w (.returned (.tuple #[.string k, .string v, .int .i64 n, .int .i64 0])) w'' :=
    ⟨k, v, n, 0, rfl, Or.inl ⟨rfl, hR⟩, hb⟩
  simp only [Array.getD_eq_getD_getElem?] at h2 h3 h4 h5
  simp [Leaves, settle, results, Tryd.results16, go_sem, h2, h3, h4, h5, hcell]
  exact hT
end Go.Proofs.YtokkoacfmdnmaaaDoor
