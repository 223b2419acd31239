import Derived.Test.YtlpiokepagkahaaDoorSum
namespace Go.Proofs.YtlpiokepagkahaaDoor
set_option linter.unusedVariables false
set_option linter.unusedSimpArgs false
open Go.RowKit
theorem below_seq {w w1 w2 : World} (a : Below w.heap.size w w1) (b : Below w1.heap.size w1 w2) : Below w.heap.size w w2 := a.trans (b.mono a.size)
theorem lt_of_row {w : World} {g : Nat} {o : Obj} (h : w.heap[g]? = some o) : g < w.heap.size := by
  rcases Nat.lt_or_ge g w.heap.size with h' | h'
  · exact h'
  · rw [Array.getElem?_eq_none h'] at h; exact absurd h (by simp)
theorem WrAt.below {w w' : World} {g : Nat} {m : List UInt8} (h : WrAt w g m) (b : Below w.heap.size w w') : WrAt w' g m := by
  obtain ⟨f, hf, hh⟩ := h
  exact ⟨f, hf, carry hh b⟩
theorem WrAt.lt {w : World} {g : Nat} {m : List UInt8} (h : WrAt w g m) : g < w.heap.size := by
  obtain ⟨f, hf, hh⟩ := h
  exact lt_of_row hh
theorem KIn.seq {w w' : World} (h : KIn w) (b : Below w.heap.size w w') : KIn w' := h.below b h.lt
theorem b32_one (g : Nat → UInt8) : (b32 g).all (·.oneCell') = true := pb_one _ _ _
theorem b32_size (g : Nat → UInt8) : (b32 g).size = 32 := pb_size _ _ _
theorem info22b (g : Nat → UInt8) : (Tryd.prog.info? 23).map (·.size) = some (b32 g).size := by rw [b32_size]; exact info22
theorem row22 (w : World) (g : Nat → UInt8) {Z : Array Value} (h : Z = pb 32 g 0) : (w.alloc (.cells Z 23)).heap[w.heap.size]? = some (.cells (pb 32 g 0) 23 (0, 0)) := by
  subst h; exact heap_alloc_new _ _
set_option maxHeartbeats 400000 in
set_option maxRecDepth 8000 in
theorem sum_any (s : ByteArray) (w : World) (hK : KIn w) (hs : s.size < 1152921504606846000) :
    Calls Tryd.prog 22 #[.string s] w fun e w' => e = .returned (.agg (b32 (dg s.data.toList))) ∧ Below w.heap.size w w' := by
  go_enter Tryd.func22, Tryd.ntmps22
  go_wp2_with fail
  obtain ⟨W, hW, q, b0⟩ : ∃ W, W = w.alloc (.cells _ 23) ∧ W.heap[w.heap.size]? = some (.cells (pb 32 (dg s.data.toList) 0) 23 (0, 0)) ∧ Below w.heap.size w W :=
    ⟨_, rfl, row22 w (dg s.data.toList) (pb32 _).symm, (Below.refl _ _).alloc (Nat.le_refl _) _⟩
  rw [← hW]
  clear hW
  have k0 : KIn W := hK.seq b0
  have hB0 : w.heap.size < W.heap.size := lt_of_row q
  refine (new_any W).mono ?_
  rintro e w1 ⟨rfl, W1, b1⟩
  have k1 := k0.seq b1
  have q1 := carry q b1
  have b01 := below_seq b0 b1
  go_wp2_with fail
  refine (write_any W.heap.size [] s w1 k1 (by omega) W1 (by show 0 + s.size < _; omega)).mono ?_
  rintro e w2 ⟨rfl, W2, b2⟩
  rw [List.nil_append] at W2
  have k2 := b2.kin k1 (by omega)
  have q2 : w2.heap[w.heap.size]? = some (.cells (pb 32 (dg s.data.toList) 0) 23 (0, 0)) := by
    rw [b2.block _ (by have := b1.size; omega) (by omega)]; exact q1
  have b02 : Below w.heap.size w w2 := b01.trans (b2.below (by have := b1.size; omega) (by omega))
  have hl : s.data.toList.length < 1152921504606846000 := by rw [Array.length_toList]; exact hs
  go_wp2_with fail
  refine (wsum_any W.heap.size s.data.toList w2 k2 W2 hl).mono ?_
  rintro e w3 ⟨rfl, b3⟩
  have q3 := carry q2 b3
  have b03 := below_seq b02 b3
  generalize hg : dg s.data.toList = g at *
  have HG : Hid (dg s.data.toList = g) := hg
  clear hg
  clear W2 W1 k0 k1 k2 q q1 q2 b01 b02 b0 b1 b2 b3 hl hB0 hK
  have ho := b32_one g
  have hz : (pb 32 g 0).size = (b32 g).size := by rw [b32_size, pb_size]
  have hi := info22b g
  go_wp2_with (refine wpList_store_row rfl 23 _ _ rfl _ _ rfl rfl 23 _ q3 hi hz ho ?_)
  exact bodyPost_ret (v := .agg (b32 g)) (results_cell_row Tryd.results22 _ _ w.heap.size 23 (b32 g) (0, 0) _ rfl (setRow_heap _ _ _ _ _ _ q3) Tryd.underlying23 rfl hi) rfl ⟨by rw [HG.out], below_setRow b03 (Nat.le_refl _) _⟩
end Go.Proofs.YtlpiokepagkahaaDoor
