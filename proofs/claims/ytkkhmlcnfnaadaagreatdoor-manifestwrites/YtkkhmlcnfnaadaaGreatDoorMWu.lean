/- ManifestWrites: answers in one form. -/
import Derived.Test.YtkkhmlcnfnaadaaGreatDoorGw
import Derived.Test.YtkkhmlcnfnaadaaGreatDoorHe
import Derived.Test.YtkkhmlcnfnaadaaGreatDoorHc
import Derived.Test.YtkkhmlcnfnaadaaGreatDoorGq
import Derived.Test.YtkkhmlcnfnaadaaGreatDoorGv
namespace Go.Proofs.YtkkhmlcnfnaadaaGreatDoor
set_option maxRecDepth 100000
set_option linter.unusedVariables false
set_option linter.unusedSimpArgs false
open Go.RowKit
open Go.Proofs.YtkkhmlcnfnaadaaGreatDoorH (hv leaf)
noncomputable def ofM (L : List Vs) (next since : Int) : Ma := by
  classical exact if OfR L next since then ⟨since, next, ofI L⟩ else ⟨0, 0, []⟩
noncomputable def ofC (L : List Vs) (next since : Int) : Int := by
  classical exact if OfR L next since then 0 else 1
theorem QOfP.uni {L : List Vs} {next since : Int} {w w' : World} {e : Ending} (h : QOfP L next since w e w') : ∃ xa xc, e = .returned (.tuple #[.agg #[.int .i64 (ofM L next since).since, .int .i64 (ofM L next since).next, .slice xa (ofM L next since).items.length xc], .int .i64 (ofC L next since)]) ∧ IIt w' xa (ofM L next since).items ∧ Below w.heap.size w w' := by
  obtain ⟨h | h, hb⟩ := h
  · obtain ⟨a, c, hr, rfl, hi⟩ := h
    unfold ofM ofC
    rw [if_pos hr, if_pos hr]
    exact ⟨a, c, rfl, hi, hb⟩
  · obtain ⟨hr, rfl⟩ := h
    unfold ofM ofC
    rw [if_neg hr, if_neg hr]
    exact ⟨none, 0, rfl, IIt.nil w', hb⟩
theorem OfP.uni {L : List Vs} {next since : Int} {w w' : World} {e : Ending} (h : OfP L next since w e w') : ∃ xa xc, e = .returned (.tuple #[.agg #[.int .i64 (ofM L next since).since, .int .i64 (ofM L next since).next, .slice xa (ofM L next since).items.length xc], .int .i64 (ofC L next since)]) ∧ (∃ R : List Ri, R.map (·.1) = (ofM L next since).items ∧ Fi w.heap.size w' (.slice xa (ofM L next since).items.length xc) R) ∧ Below w.heap.size w w' := by
  obtain ⟨h | h, hb⟩ := h
  · obtain ⟨R, a, c, hr, rfl, hR, hF⟩ := h
    unfold ofM ofC
    rw [if_pos hr, if_pos hr]
    have hl : R.length = (ofI L).length := by rw [← hR, List.length_map]
    rw [hl] at hF
    exact ⟨a, c, by rw [hl], ⟨R, hR, hF⟩, hb⟩
  · obtain ⟨hr, rfl⟩ := h
    unfold ofM ofC
    rw [if_neg hr, if_neg hr]
    exact ⟨none, 0, rfl, ⟨[], rfl, Fi.nil w' _ hb.size⟩, hb⟩
noncomputable def wrT (m : Ma) : List UInt8 := by
  classical exact if RtM m then mtx m else []
noncomputable def wrC (m : Ma) : Int := by
  classical exact if RtM m then 0 else 1
theorem WrP.uni {m : Ma} {w w' : World} {e : Ending} (h : WrP m w e w') : e = .returned (.tuple #[str (wrT m), .int .i64 (wrC m)]) ∧ Below w.heap.size w w' := by
  obtain ⟨h | h, hb⟩ := h
  · obtain ⟨hr, rfl⟩ := h
    unfold wrT wrC
    rw [if_pos hr, if_pos hr]
    exact ⟨rfl, hb⟩
  · obtain ⟨hr, rfl⟩ := h
    unfold wrT wrC
    rw [if_neg hr, if_neg hr]
    exact ⟨rfl, hb⟩
theorem ofM_l {L : List Vs} {next since : Int} {n : Nat} (h : ∀ v ∈ L, v.l.length ≤ n) : ∀ x ∈ (ofM L next since).items, x.l.length ≤ n := fun x hx => by
  unfold ofM at hx
  split at hx
  · obtain ⟨v, hv, rfl⟩ := List.mem_map.1 hx
    exact h v hv
  · simp at hx
theorem ofM_n {L : List Vs} {next since : Int} : (ofM L next since).items.length ≤ 256 := by
  unfold ofM
  split
  · rename_i h
    have := h.1
    simpa using this
  · simp
theorem svL_refl (L : List Vs) : Stk.svL L L = true := Stk.svL_true rfl
/-- a box with a bucket -/
def Wb (w : World) (g : Nat) (n : Int) (v : Value) : Prop := w.heap[g]? = some (.cells #[.int .i64 n, v] 24 (0, 0))
theorem Wb.new (w : World) (n : Int) (v : Value) : Wb (w.alloc (.cells #[.int .i64 n, v] 24)) w.heap.size n v := heap_alloc_new _ _
theorem Wb.later {w w' : World} {g : Nat} {n : Int} {v : Value} (h : Wb w g n v) (hb : Below w.heap.size w w') : Wb w' g n v := (hb.block g (Array.getElem?_eq_some_iff.1 h).1).trans h
theorem Wb.cells {w : World} {g : Nat} {n : Int} {v : Value} (h : Wb w g n v) : w.cell? ⟨g, 0, none⟩ = some (.int .i64 n) ∧ w.cell? ⟨g, 1, none⟩ = some v := by
  refine ⟨?_, ?_⟩ <;> (rw [cell_of_row _ _ _ _ _ _ h]; rfl)
noncomputable def slVw (v : Value) (a b c : Option Value) : Sem Value := Instr.slice 22 v a b c
theorem slVwe (v : Value) (a b c : Option Value) : Instr.slice 22 v a b c = slVw v a b c := rfl
theorem run_slVw (a : Option Addr) (len cap n : Nat) (h1 : n ≤ cap) (h3 : cap ≤ 9223372036854775807) (hn : a = none → cap = 0) (w : World) : (slVw (.slice a len cap) none (some (.int .i64 (n : Int))) none).run Tryz.prog w = .ok (.slice a n cap) w := by
  unfold slVw
  cases a with
  | none =>
    obtain rfl := hn rfl
    obtain rfl : n = 0 := by omega
    simp [Instr.slice, Tryz.underlying22, go_sem]
  | some ad =>
    simp [Instr.slice, Tryz.underlying22, go_sem]
    omega
/-- all that stands while Write's law goes -/
structure Wq (W w : World) (m : Ma) (qa : Option Addr) (qc : Nat) (nx : Int) (L : List Vs) (ba : Option Addr) (bc : Nat) : Prop where
  bel : Below W.heap.size W w
  m : Bn3 w W.heap.size m.since m.next (.slice qa m.items.length qc)
  b : Wb w (W.heap.size + 1) nx (.slice ba L.length bc)
theorem Wq.later {W w w' : World} {m : Ma} {qa : Option Addr} {qc : Nat} {nx : Int} {L : List Vs} {ba : Option Addr} {bc : Nat} (h : Wq W w m qa qc nx L ba bc) (hb : Below w.heap.size w w') : Wq W w' m qa qc nx L ba bc := ⟨h.bel.trans (hb.mono h.bel.size), h.m.later hb, h.b.later hb⟩
theorem Wq.start (W : World) (m : Ma) (qa : Option Addr) (qc : Nat) (nx : Int) (L : List Vs) (ba : Option Addr) (bc : Nat) : Wq W ((W.alloc (.cells #[.int .i64 m.since, .int .i64 m.next, .slice qa m.items.length qc] 38)).alloc (.cells #[.int .i64 nx, .slice ba L.length bc] 24)) m qa qc nx L ba bc := by
  have b1 := (Below.refl W.heap.size W).alloc (Nat.le_refl _) (.cells #[.int .i64 m.since, .int .i64 m.next, .slice qa m.items.length qc] 38)
  have b2 := b1.alloc b1.size (.cells #[.int .i64 nx, .slice ba L.length bc] 24)
  have bb : Below (W.alloc (.cells #[.int .i64 m.since, .int .i64 m.next, .slice qa m.items.length qc] 38)).heap.size _ ((W.alloc (.cells #[.int .i64 m.since, .int .i64 m.next, .slice qa m.items.length qc] 38)).alloc (.cells #[.int .i64 nx, .slice ba L.length bc] 24)) := (Below.refl _ _).alloc (Nat.le_refl _) _
  refine ⟨b2, (Bn3.new W m.since m.next (.slice qa m.items.length qc)).later bb, ?_⟩
  have := Wb.new (W.alloc (.cells #[.int .i64 m.since, .int .i64 m.next, .slice qa m.items.length qc] 38)) nx (.slice ba L.length bc)
  rw [World.size_alloc] at this
  exact this
end Go.Proofs.YtkkhmlcnfnaadaaGreatDoor
