import Derived.Test.YtjoaiagiankfdaaDoorRows2
import Derived.Test.YtjoaiagiankfdaaDoorShelf
import Derived.Laws.IdiomStrings
namespace Go.Proofs.YtjoaiagiankfdaaDoor
set_option linter.unusedVariables false
set_option linter.unusedSimpArgs false
open Go.RowKit
attribute [local go_sem ↓] Go.wp_at_zero Go.wp_at_succ
theorem keepR {wr w2 w3 : World} {B n T : Nat} {g : Nat → UInt8} {C : Prop} (hB : B < wr.heap.size) (h1 : wr.heap[B]? = some (.cells (pb n g n) T (0, 0))) {L : List UInt8} (hL : L = (List.range n).map g) (q : Below w2.heap.size w2 w3) (h : Below wr.heap.size wr w2 ∧ C) : Below wr.heap.size wr w3 ∧ (convert 27 9 (.slice (some ⟨B, 0, none⟩) n n)).run Tryd.prog w3 = .ok (.string ⟨L.toArray⟩) w3 := by
  subst hL
  have b : Below wr.heap.size wr w3 := h.1.trans (q.mono h.1.size)
  exact ⟨b, conv_row (by rw [b.block B hB]; exact h1)⟩
def zerosB (z : Nat) : ByteArray := ⟨(List.replicate z 0).toArray⟩
theorem zerosB_size (z : Nat) : (zerosB z).size = z := by simp [zerosB, ByteArray.size]
theorem repeat_zero : ∀ z, Lib.repeatL [0] z = List.replicate z 0
  | 0 => rfl
  | z + 1 => by rw [Lib.repeatL, repeat_zero z]; rfl
theorem zeros_any (z : Nat) (w : World) (h : z < 64) : Calls Tryd.prog 30 #[.string ⟨#[0]⟩, .int .i64 (z : Int)] w fun e w' => e = .returned (.string (zerosB z)) ∧ Below w.heap.size w w' := by
  have := Tryd.strings_Repeat ⟨#[0]⟩ z w (by omega) (by show 1 * z ≤ _; omega)
  refine this.mono ?_
  rintro e w' ⟨rfl, b⟩
  exact ⟨by rw [zerosB, ← repeat_zero], b⟩
theorem startR {wr : World} {B n T : Nat} {g : Nat → UInt8} (h1 : wr.heap[B]? = some (.cells (pb n g n) T (0, 0))) {L : List UInt8} (hL : L = (List.range n).map g) : Below wr.heap.size wr wr.drew ∧ (convert 27 9 (.slice (some ⟨B, 0, none⟩) n n)).run Tryd.prog wr.drew = .ok (.string ⟨L.toArray⟩) wr.drew := by
  subst hL; exact ⟨(Below.refl _ _).drew, conv_row (w' := wr.drew) h1⟩
set_option maxHeartbeats 400000 in
set_option maxRecDepth 8000 in
theorem padding_any (n : Nat) (hn : n < 1152921504606846976) (w : World) :
    Calls Tryd.prog 23 #[.int .u64 (n : Int)] w fun e w' => e = .returned (.string ⟨(Sha.pad n).toArray⟩) ∧ Below w.heap.size w w' := by
  obtain ⟨z, hz, ez⟩ : ∃ z : Nat, z = (119 - n % 64) % 64 ∧ (119 - (n : Int) % 64) % 64 = (z : Int) := ⟨_, rfl, by omega⟩
  have hz64 : z < 64 := by omega
  have HZ : Hid (z = (119 - n % 64) % 64) := hz
  clear hz
  go_enter Tryd.func23, Tryd.ntmps23
  go_wp2_with fail
  rw [← pb8 (Sha.lenByte n)]
  obtain ⟨W, hW, hb, h1⟩ : ∃ W, W = w.alloc (Obj.cells (pb 8 (Sha.lenByte n) 0) 62) ∧ Below w.heap.size w W ∧ W.heap[w.heap.size]? = some (.cells (pb 8 (Sha.lenByte n) 0) 62 (0, 0)) :=
    ⟨_, rfl, (Below.refl _ _).alloc (Nat.le_refl _) _, heap_alloc_new _ _⟩
  rw [← hW]
  clear hW
  generalize hB : w.heap.size = B at *
  go_loopw [10] (fun i wr => ∃ k : Nat, k ≤ 8 ∧ i = .int .i64 k ∧ Below B w wr ∧ wr.heap[B]? = some (.cells (pb 8 (Sha.lenByte n) k) 62 (0, 0))) (fun i _ => 8 - (intOf i).toNat)
  case atStart => exact ⟨0, by omega, rfl, hb, h1⟩
  case round =>
    clear hb h1
    obtain ⟨k, hk, rfl, hb, h1⟩ := hrel
    by_cases hlt : k < 8
    · have hd : decide ((k : Int) < 8) = true := by simp; omega
      have i0 : (0 : Int) ≤ (k : Int) := by omega
      have i1 : (k : Int) < 8 := by omega
      have g5 : wr.frozen? ⟨B, k, none⟩ = false := frozen_of_row _ _ _ _ _ h1
      obtain ⟨v0, g4⟩ : ∃ v, wr.cell? ⟨B, k, none⟩ = some v := ⟨_, by rw [cell_of_row _ _ _ _ _ _ h1]; exact Array.getElem?_eq_getElem (by rw [pb_size]; omega)⟩
      go_wp2_with fail
      go_round
      case rel =>
        have e : 8 * (n : Int) / 2 ^ (56 - 8 * k) % 256 = ((Sha.lenByte n k).toNat : Int) := by
          unfold Sha.lenByte; rw [UInt8.toNat_ofNat']; exact (cast_div (8 * n) _).symm
        refine ⟨k + 1, by omega, by go_num, hb.setCell (Nat.le_refl _) _, ?_⟩
        rw [cell_set _ _ _ _ _ _ h1, e, pb_set 8 _ k hlt]
      case measure => simp [intOf]; omega
    · obtain rfl : k = 8 := by omega
      have hd : decide ((8 : Int) < 8) = false := by decide
      go_wp2_with fail
      have hB1 : B < wr.heap.size := by
        rcases Nat.lt_or_ge B wr.heap.size with h | h
        · exact h
        · rw [Array.getElem?_eq_none h] at h1; exact absurd h1 (by simp)
      have hwz : IntKind.i64.wrap (z : Int) = (z : Int) := by rw [IntKind.wrap_i64]; omega
      obtain ⟨L, hL⟩ : ∃ L, L = (List.range 8).map (Sha.lenByte n) := ⟨_, rfl⟩
      have HL : Hid (L = (List.range 8).map (Sha.lenByte n)) := hL
      clear hL
      have hzs : (zerosB z).size = z := zerosB_size z
      have hLs : L.length = 8 := by rw [HL.out]; simp
      have s1 : ¬ 9223372036854775807 < (⟨#[128]⟩ : ByteArray).size + (zerosB z).size := by rw [hzs]; show ¬ _ < 1 + z; omega
      have s2 : ¬ 9223372036854775807 < ((⟨#[128]⟩ : ByteArray) ++ zerosB z).size + (⟨L.toArray⟩ : ByteArray).size := by rw [ByteArray.size_append, hzs]; show ¬ _ < 1 + z + L.toArray.size; simp; omega
      have s3 : ¬ 9223372036854775807 < 1 + z := by omega
      have s4 : ¬ 9223372036854775807 < 1 + z + 8 := by omega
      go_region_held3 (fun w' => (Below wr.heap.size wr w') ∧ (convert 27 9 (.slice (some ⟨B, 0, none⟩) 8 8)).run Tryd.prog w' = .ok (.string ⟨L.toArray⟩) w') (first | exact startR h1 HL.out | exact keepR hB1 h1 HL.out bq (by assumption)) ((go_at_call 30; refine (zeros_any z _ hz64).mono ?_; rintro e w' ⟨rfl, bq⟩))
      go_wp2
      go_ret
      rename_i hH
      refine ⟨?_, by subst hB; exact hb.trans (hH.1.mono hb.size)⟩
      have e1 : ((⟨#[128]⟩ : ByteArray) ++ zerosB z ++ ⟨L.toArray⟩) = ⟨(Sha.pad n).toArray⟩ := by
        have a1 : (⟨#[128]⟩ : ByteArray) = ⟨([128] : List UInt8).toArray⟩ := rfl
        rw [a1, zerosB, ByteArray.mk_append_mk, ByteArray.mk_append_mk, HL.out, HZ.out]
        rfl
      exact congrArg (fun z => Ending.returned (.string z)) e1
end Go.Proofs.YtjoaiagiankfdaaDoor
