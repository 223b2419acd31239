import Derived.Test.YtjoaiagiankfdaaDoorRows2
import Derived.Laws.IdiomStrings
namespace Go.Proofs.YtjoaiagiankfdaaDoor
set_option linter.unusedVariables false
set_option linter.unusedSimpArgs false
open Go.RowKit
def hx (g : Nat → UInt8) (j : Nat) : UInt8 := if j % 2 = 0 then Sha.dig ((g (j / 2)).toNat / 16) else Sha.dig ((g (j / 2)).toNat % 16)
def hexL (g : Nat → UInt8) : List UInt8 := (List.range 64).map (hx g)
theorem idxdig : ∀ n : Nat, n < 16 → ∀ w, (Instr.index 9 (.string ⟨#[48, 49, 50, 51, 52, 53, 54, 55, 56, 57, 97, 98, 99, 100, 101, 102]⟩) (.int .u8 (n : Int))).run Tryd.prog w = .ok (.int .u8 ((Sha.dig n).toNat : Int)) w := by
  intro n h w
  have hall : n = 0 ∨ n = 1 ∨ n = 2 ∨ n = 3 ∨ n = 4 ∨ n = 5 ∨ n = 6 ∨ n = 7 ∨ n = 8 ∨ n = 9 ∨ n = 10 ∨ n = 11 ∨ n = 12 ∨ n = 13 ∨ n = 14 ∨ n = 15 := by omega
  rcases hall with rfl | rfl | rfl | rfl | rfl | rfl | rfl | rfl | rfl | rfl | rfl | rfl | rfl | rfl | rfl | rfl <;> (rw [run_index_string _ _ _ _ _ Tryd.underlying9]; rfl)
theorem and15_u8 (x : UInt8) : bits BinOp.and IntKind.u8 (x.toNat : Int) 15 = ((x.toNat % 16 : Nat) : Int) := by
  have := u8_and_nat x.toNat 15 x.toNat_lt (by decide)
  rw [nat_mask4] at this
  exact this
theorem idx22 (g : Nat → UInt8) (k : Nat) (h : k < 32) (w : World) : (Instr.index 22 (.agg (b32 g)) (.int .i64 (k : Int))).run Tryd.prog w = .ok (.int .u8 ((g k).toNat : Int)) w := by
  have h2 : (k : Int) < 32 := by omega
  have h3 : k < (b32 g).size := by unfold b32; rw [pb_size]; exact h
  have hv := b32_get g k h
  rw [Array.getElem?_eq_getElem h3] at hv
  have h4 := Option.some.inj hv
  simp [Instr.index, Tryd.underlying22, go_sem, h2, h3, h, h4]
attribute [local go_sem ↓] Go.wp_at_zero Go.wp_at_succ
set_option maxHeartbeats 400000 in
set_option maxRecDepth 8000 in
theorem hex_any (g : Nat → UInt8) (w : World) :
    Calls Tryd.prog 10 #[.agg (b32 g)] w fun e w' => e = .returned (.string ⟨(hexL g).toArray⟩) ∧ Below w.heap.size w w' := by
  have hib : (Tryd.prog.info? 22).map (·.size) = some (b32 g).size := by unfold b32; rw [pb_size]; exact info22
  have hrow : ∀ o, ((w.alloc (Obj.cells (b32 g) 22)).alloc o).heap[w.heap.size]? = some (.cells (b32 g) 22 (0, 0)) := fun o => by rw [heap_alloc_old _ _ (by simp), heap_alloc_new]
  go_enter Tryd.func10, Tryd.ntmps10
  go_wp2_with (refine wpList_load_row rfl 22 _ rfl _ rfl 22 _ (0, 0) _ (hrow _) Tryd.underlying22 rfl hib ?_)
  rw [← pb64 (hx g)]
  obtain ⟨W, hW, hb, h1⟩ : ∃ W, W = (w.alloc (Obj.cells (b32 g) 22)).alloc (Obj.cells (pb 64 (hx g) 0) 45) ∧ Below w.heap.size w W ∧ W.heap[w.heap.size + 1]? = some (.cells (pb 64 (hx g) 0) 45 (0, 0)) :=
    ⟨_, rfl, ((Below.refl _ _).alloc (Nat.le_refl _) _).alloc (by simp) _, heap_alloc2_new _ _ _⟩
  rw [← hW]
  clear hW hrow hib
  generalize hB : w.heap.size = B at *
  go_loopw [7] (fun i wr => ∃ k : Nat, k ≤ 32 ∧ i = .int .i64 k ∧ Below B w wr ∧ wr.heap[B + 1]? = some (.cells (pb 64 (hx g) (2 * k)) 45 (0, 0))) (fun i _ => 32 - (intOf i).toNat)
  case atStart => exact ⟨0, by omega, rfl, hb, h1⟩
  case round =>
    clear hb h1
    obtain ⟨k, hk, rfl, hb, h1⟩ := hrel
    by_cases hlt : k < 32
    · have hd : decide ((k : Int) < 32) = true := by simp; omega
      have i0 : (0 : Int) ≤ (k : Int) := by omega
      have i1 : (k : Int) < 32 := by omega
      have hix := idx22 g k hlt
      have hx0 : Hid (hx g (2 * k) = Sha.dig ((g k).toNat / 16)) := by show _ = _; unfold hx; rw [if_pos (by omega), show 2 * k / 2 = k by omega]
      have hx1 : Hid (hx g (2 * k + 1) = Sha.dig ((g k).toNat % 16)) := by show _ = _; unfold hx; rw [if_neg (by omega), show (2 * k + 1) / 2 = k by omega]
      have hlt8 : (g k).toNat < 256 := (g k).toNat_lt
      obtain ⟨hi, hhi, ehi⟩ : ∃ hi : Nat, hi = (g k).toNat / 16 ∧ ((g k).toNat : Int) / 16 = (hi : Int) := ⟨(g k).toNat / 16, rfl, by omega⟩
      obtain ⟨lo, hlo, elo⟩ : ∃ lo : Nat, lo = (g k).toNat % 16 ∧ bits BinOp.and IntKind.u8 ((g k).toNat : Int) 15 = (lo : Int) := ⟨(g k).toNat % 16, rfl, and15_u8 _⟩
      rw [← hhi] at hx0
      rw [← hlo] at hx1
      have dhi := idxdig hi (by omega)
      have dlo := idxdig lo (by omega)
      clear hhi hlo hlt8
      obtain ⟨p, hp, hp64, w0⟩ : ∃ p, p = 2 * k ∧ (p : Int) < 64 ∧ IntKind.i64.wrap (2 * (k : Int)) = (p : Int) := ⟨2 * k, rfl, by omega, by rw [IntKind.wrap_i64]; omega⟩
      obtain ⟨p1, hp1, hp164, w1⟩ : ∃ p1, p1 = p + 1 ∧ (p1 : Int) < 64 ∧ IntKind.i64.wrap ((p : Int) + 1) = (p1 : Int) := ⟨p + 1, rfl, by omega, by rw [IntKind.wrap_i64]; omega⟩
      have q0 : (0 : Int) ≤ (p : Int) := by omega
      have q1 : (0 : Int) ≤ (p1 : Int) := by omega
      have hcs : ∀ j, j < 64 → ∃ v, wr.cell? ⟨B + 1, j, none⟩ = some v := fun j hj => ⟨_, by rw [cell_of_row _ _ _ _ _ _ h1]; exact Array.getElem?_eq_getElem (by rw [pb_size]; exact hj)⟩
      obtain ⟨v0, g0⟩ := hcs p (by omega)
      obtain ⟨v1, g1⟩ := hcs p1 (by omega)
      have f0 : wr.frozen? ⟨B + 1, p, none⟩ = false := frozen_of_row _ _ _ _ _ h1
      have f1 : wr.frozen? ⟨B + 1, p1, none⟩ = false := frozen_of_row _ _ _ _ _ h1
      have HP : Hid (p = 2 * k ∧ p1 = p + 1) := ⟨hp, hp1⟩
      have hne : ¬ p1 = p := by omega
      have hne' : ¬ p = p1 := by omega
      clear hp hp1 hcs
      go_wp2_with fail
      go_region
      all_goals go_wp2_with fail
      go_round
      case rel =>
        refine ⟨k + 1, by omega, by go_num, ((hb.setCell (by show B ≤ B + 1; omega) _).setCell (by show B ≤ B + 1; omega) _).drew, ?_⟩
        have ep : p = 2 * k := HP.out.1
        have ep1 : p1 = 2 * k + 1 := by rw [HP.out.2, ep]
        rw [heap_drew, cell_set _ _ _ _ _ _ (cell_set _ _ _ _ _ _ h1), ep, ep1, ← hx0.out, ← hx1.out, pb_set 64 _ _ (by omega), pb_set 64 _ _ (by omega)]
        rfl
      case measure => simp [intOf]; omega
    · obtain rfl : k = 32 := by omega
      have hd : decide ((32 : Int) < 32) = false := by decide
      obtain ⟨L, hL⟩ : ∃ L, L = (List.range 64).map (hx g) := ⟨_, rfl⟩
      have hcv := conv_row (n := 64) (g := hx g) (show wr.heap[B + 1]? = some (.cells (pb 64 (hx g) 64) 45 (0, 0)) from h1)
      rw [← hL] at hcv
      have HL : Hid (L = hexL g) := hL
      clear hL h1
      go_wp2_with fail
      go_ret
      exact ⟨by rw [HL.out]; rfl, by subst hB; exact hb⟩
end Go.Proofs.YtjoaiagiankfdaaDoor
