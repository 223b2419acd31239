import Derived.Test.YtjoaiagiankfdaaDoorSum
import Derived.Test.YtjoaiagiankfdaaDoorHex
import Derived.Test.YtjoaiagiankfdaaDoorParse
namespace Go.Proofs.YtjoaiagiankfdaaDoor
set_option linter.unusedVariables false
set_option linter.unusedSimpArgs false
open Go.RowKit
theorem below_seq {w w1 w2 : World} (a : Below w.heap.size w w1) (b : Below w1.heap.size w1 w2) : Below w.heap.size w w2 := a.trans (b.mono a.size)
theorem lt_of_row {w : World} {g : Nat} {o : Obj} (h : w.heap[g]? = some o) : g < w.heap.size := by
  rcases Nat.lt_or_ge g w.heap.size with h' | h'
  · exact h'
  · rw [Array.getElem?_eq_none h'] at h; exact absurd h (by simp)
theorem WrAt.below {w w' : World} {g : Nat} {m : List UInt8} (h : WrAt w g m) (b : Below w.heap.size w w') : WrAt w' g m := by
  obtain ⟨f, hf, hh⟩ := h
  exact ⟨f, hf, carry hh b⟩
theorem WrAt.lt {w : World} {g : Nat} {m : List UInt8} (h : WrAt w g m) : g < w.heap.size := by
  obtain ⟨f, hf, hh⟩ := h
  exact lt_of_row hh
theorem KIn.seq {w w' : World} (h : KIn w) (b : Below w.heap.size w w') : KIn w' := h.below b h.lt
theorem b32_one (g : Nat → UInt8) : (b32 g).all (·.oneCell') = true := pb_one _ _ _
theorem b32_size (g : Nat → UInt8) : (b32 g).size = 32 := pb_size _ _ _
theorem info22b (g : Nat → UInt8) : (Tryd.prog.info? 22).map (·.size) = some (b32 g).size := by rw [b32_size]; exact info22
theorem row22 (w : World) (g : Nat → UInt8) {Z : Array Value} (h : Z = pb 32 g 0) : (w.alloc (.cells Z 22)).heap[w.heap.size]? = some (.cells (pb 32 g 0) 22 (0, 0)) := by
  subst h; exact heap_alloc_new _ _
set_option maxHeartbeats 400000 in
set_option maxRecDepth 8000 in
theorem sum_any (s : ByteArray) (w : World) (hK : KIn w) (hs : s.size < 1152921504606846000) :
    Calls Tryd.prog 15 #[.string s] w fun e w' => e = .returned (.agg (b32 (dg s.data.toList))) ∧ Below w.heap.size w w' := by
  go_enter Tryd.func15, Tryd.ntmps15
  go_wp2_with fail
  obtain ⟨W, hW, q, b0⟩ : ∃ W, W = w.alloc (.cells _ 22) ∧ W.heap[w.heap.size]? = some (.cells (pb 32 (dg s.data.toList) 0) 22 (0, 0)) ∧ Below w.heap.size w W :=
    ⟨_, rfl, row22 w (dg s.data.toList) (pb32 _).symm, (Below.refl _ _).alloc (Nat.le_refl _) _⟩
  rw [← hW]
  clear hW
  have k0 : KIn W := hK.seq b0
  have hB0 : w.heap.size < W.heap.size := lt_of_row q
  refine (new_any W).mono ?_
  rintro e w1 ⟨rfl, W1, b1⟩
  have k1 := k0.seq b1
  have q1 := carry q b1
  have b01 := below_seq b0 b1
  go_wp2_with fail
  refine (write_any W.heap.size [] s w1 k1 (by omega) W1 (by show 0 + s.size < _; omega)).mono ?_
  rintro e w2 ⟨rfl, W2, b2⟩
  rw [List.nil_append] at W2
  have k2 := b2.kin k1 (by omega)
  have q2 : w2.heap[w.heap.size]? = some (.cells (pb 32 (dg s.data.toList) 0) 22 (0, 0)) := by
    rw [b2.block _ (by have := b1.size; omega) (by omega)]; exact q1
  have b02 : Below w.heap.size w w2 := b01.trans (b2.below (by have := b1.size; omega) (by omega))
  have hl : s.data.toList.length < 1152921504606846000 := by rw [Array.length_toList]; exact hs
  go_wp2_with fail
  refine (wsum_any W.heap.size s.data.toList w2 k2 W2 hl).mono ?_
  rintro e w3 ⟨rfl, b3⟩
  have q3 := carry q2 b3
  have b03 := below_seq b02 b3
  generalize hg : dg s.data.toList = g at *
  have HG : Hid (dg s.data.toList = g) := hg
  clear hg
  clear W2 W1 k0 k1 k2 q q1 q2 b01 b02 b0 b1 b2 b3 hl hB0 hK
  have ho := b32_one g
  have hz : (pb 32 g 0).size = (b32 g).size := by rw [b32_size, pb_size]
  have hi := info22b g
  go_wp2_with (refine wpList_store_row rfl 22 _ _ rfl _ _ rfl rfl 22 _ q3 hi hz ho ?_)
  exact bodyPost_ret (v := .agg (b32 g)) (results_cell_row Tryd.results15 _ _ w.heap.size 22 (b32 g) (0, 0) _ rfl (setRow_heap _ _ _ _ _ _ q3) Tryd.underlying22 rfl hi) rfl ⟨by rw [HG.out], below_setRow b03 (Nat.le_refl _) _⟩
abbrev litE : ByteArray := ⟨#[101, 51, 98, 48, 99, 52, 52, 50, 57, 56, 102, 99, 49, 99, 49, 52, 57, 97, 102, 98, 102, 52, 99, 56, 57, 57, 54, 102, 98, 57, 50, 52, 50, 55, 97, 101, 52, 49, 101, 52, 54, 52, 57, 98, 57, 51, 52, 99, 97, 52, 57, 53, 57, 57, 49, 98, 55, 56, 53, 50, 98, 56, 53, 53]⟩
abbrev litA : ByteArray := ⟨#[98, 97, 55, 56, 49, 54, 98, 102, 56, 102, 48, 49, 99, 102, 101, 97, 52, 49, 52, 49, 52, 48, 100, 101, 53, 100, 97, 101, 50, 50, 50, 51, 98, 48, 48, 51, 54, 49, 97, 51, 57, 54, 49, 55, 55, 97, 57, 99, 98, 52, 49, 48, 102, 102, 54, 49, 102, 50, 48, 48, 49, 53, 97, 100]⟩
theorem hexE : hexL (dg []) = litE.data.toList := by decide +kernel
theorem hexA : hexL (dg [97, 98, 99]) = litA.data.toList := by decide +kernel
theorem okAb : okL [97, 98] = false := by decide +kernel
theorem hexE_any (w : World) : Calls Tryd.prog 10 #[.agg (b32 (dg []))] w fun e w' => e = .returned (.string litE) ∧ Below w.heap.size w w' := by
  have := hex_any (dg []) w
  rw [hexE] at this
  exact this
theorem hexA_any (w : World) : Calls Tryd.prog 10 #[.agg (b32 (dg [97, 98, 99]))] w fun e w' => e = .returned (.string litA) ∧ Below w.heap.size w w' := by
  have := hex_any (dg [97, 98, 99]) w
  rw [hexA] at this
  exact this
theorem parseAb (w : World) : Calls Tryd.prog 11 #[.string ⟨#[97, 98]⟩] w fun e w' => e = .returned (.tuple #[.agg (parsed [97, 98]), .bool false]) ∧ Below w.heap.size w w' := by
  have := parse_any ⟨#[97, 98]⟩ w (by decide)
  rw [show (⟨#[97, 98]⟩ : ByteArray).data.toList = [97, 98] from rfl, okAb] at this
  exact this
theorem sumE_any (w : World) (hK : KIn w) : Calls Tryd.prog 15 #[.string ⟨#[]⟩] w fun e w' => e = .returned (.agg (b32 (dg []))) ∧ Below w.heap.size w w' :=
  sum_any ⟨#[]⟩ w hK (by decide)
abbrev z32 : Array Value := #[.int .u8 0, .int .u8 0, .int .u8 0, .int .u8 0, .int .u8 0, .int .u8 0, .int .u8 0, .int .u8 0, .int .u8 0, .int .u8 0, .int .u8 0, .int .u8 0, .int .u8 0, .int .u8 0, .int .u8 0, .int .u8 0, .int .u8 0, .int .u8 0, .int .u8 0, .int .u8 0, .int .u8 0, .int .u8 0, .int .u8 0, .int .u8 0, .int .u8 0, .int .u8 0, .int .u8 0, .int .u8 0, .int .u8 0, .int .u8 0, .int .u8 0, .int .u8 0]
theorem st22 (p v : Value) : Instr.storeAt 22 p v = stS 22 p v := rfl
theorem store22 {A : Array Value} (hA : A.size = 32) (h1 : A.all (·.oneCell') = true) (w : World) : (stS 22 (.pointer (some ⟨w.heap.size, 0, none⟩)) (.agg A)).run Tryd.prog (w.alloc (.cells z32 22)) = .ok () (w.alloc (.cells A 22)) :=
  run_storeAt_new w 22 z32 A (by rw [hA]; exact info22) (by rw [hA]; rfl) h1
theorem parsed_size (l : List UInt8) : (parsed l).size = 32 := by unfold parsed; split <;> exact b32_size _
theorem parsed_one (l : List UInt8) : (parsed l).all (·.oneCell') = true := by unfold parsed; split <;> exact b32_one _
attribute [local go_sem ↓] st22
set_option maxHeartbeats 400000 in
set_option maxRecDepth 8000 in
theorem head_any (w : World) (hK : KIn w) :
    Calls Tryd.prog 9 #[] w fun e w' => e = .returned (.bool true) ∧ Below w.heap.size w w' := by
  have hB0 : 0 < w.heap.size := hK.lt
  go_enter Tryd.func9, Tryd.ntmps9
  go_wp2_with fail
  refine (new_any w).mono ?_
  rintro e w1 ⟨rfl, W1, b1⟩
  have k1 := hK.seq b1
  go_wp2_with fail
  refine (write_any w.heap.size [] ⟨#[97]⟩ w1 k1 (by omega) W1 (by decide)).mono ?_
  rintro e w2 ⟨rfl, W2, t2⟩
  have k2 := t2.kin k1 (by omega)
  have b2 : Below w.heap.size w w2 := b1.trans (t2.below b1.size (Nat.le_refl _))
  go_wp2_with fail
  refine (write_any w.heap.size _ ⟨#[98, 99]⟩ w2 k2 (by omega) W2 (by decide)).mono ?_
  rintro e w3 ⟨rfl, W3, t3⟩
  have W3' : WrAt w3 w.heap.size [97, 98, 99] := W3
  have k3 := t3.kin k2 (by omega)
  have b3 : Below w.heap.size w w3 := b2.trans (t3.below b2.size (Nat.le_refl _))
  clear W1 W2 W3 t2 t3 k1 k2 b1 b2
  go_wp2_with fail
  refine (parseAb w3).mono ?_
  rintro e w4 ⟨rfl, b4⟩
  have W4 := W3'.below b4
  have k4 := k3.seq b4
  have b04 := below_seq b3 b4
  have hst := store22 (parsed_size [97, 98]) (parsed_one [97, 98])
  generalize parsed [97, 98] = PP at *
  clear W3' k3 b3 b4
  go_wp2_with fail
  have b5 : Below w4.heap.size w4 (w4.alloc (.cells PP 22)) := (Below.refl _ _).alloc (Nat.le_refl _) _
  have W5 := W4.below b5
  have k5 := k4.seq b5
  have b05 := below_seq b04 b5
  clear W4 k4 b04 hst b5
  generalize w4.alloc (.cells PP 22) = w5 at *
  refine (sumE_any w5 k5).mono ?_
  rintro e w6 ⟨rfl, b6⟩
  go_wp2_with fail
  refine (hexE_any w6).mono ?_
  rintro e w7 ⟨rfl, b7⟩
  have b57 := below_seq b6 b7
  have W7 := W5.below b57
  have k7 := k5.seq b57
  have b07 := below_seq b05 b57
  clear W5 k5 b05 b57 b6 b7
  go_wp2_with fail
  refine (wsum_any w.heap.size [97, 98, 99] w7 k7 W7 (by decide)).mono ?_
  rintro e w8 ⟨rfl, b8⟩
  go_wp2_with fail
  refine (hexA_any w8).mono ?_
  rintro e w9 ⟨rfl, b9⟩
  have b09 := below_seq b07 (below_seq b8 b9)
  go_wp2_with fail
  go_ret
  exact ⟨rfl, b09⟩
end Go.Proofs.YtjoaiagiankfdaaDoor
