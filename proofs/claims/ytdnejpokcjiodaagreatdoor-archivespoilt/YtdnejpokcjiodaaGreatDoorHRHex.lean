/- The reference: the digits. -/
import Derived.Test.YtdnejpokcjiodaaGreatDoorGz
import Derived.Test.YtdnejpokcjiodaaGreatDoorGd
namespace Go.Proofs.YtdnejpokcjiodaaGreatDoorH
set_option maxRecDepth 100000
set_option linter.unusedVariables false
set_option linter.unusedSimpArgs false
open Go.RowKit
theorem conv_own {wr : World} {base k : Nat} {v : Value} {l : List UInt8} (h : wr.ownsRow base 5 1 v k (vals l)) (hl : l.length = k) : (convert 47 9 v).run Tryz.prog wr = .ok (.string ⟨l.toArray⟩) wr := by
  rcases h.2 with ⟨rfl, h0⟩ | ⟨g, cap, cur, rfl, _, _⟩
  · have : l = [] := List.length_eq_zero_iff.1 (by omega)
    subst this
    exact run_convert_bytes_nil wr 47 5 Tryz.underlying47 Tryz.underlying5 0 0 9 Tryz.underlying9
  · have hg := (h.lt g rfl).2
    subst hl
    refine run_convert_bytes_back wr 47 9 5 ⟨g, 0, none⟩ cap l Tryz.underlying47 Tryz.underlying5 Tryz.underlying9 ?_
    intro j hj
    have hadd : (⟨g, 0, none⟩ : Addr).add j = ⟨g, j, none⟩ := by unfold Addr.add; split <;> simp_all
    rw [hadd, h.cellAt j (by omega)]
    simp [vals, hj]
def hp (g : Nat → UInt8) (n : Nat) : List UInt8 := (List.range n).map (hx g)
theorem hp_succ2 (g : Nat → UInt8) (k : Nat) : hp g (2 * (k + 1)) = hp g (2 * k) ++ [hx g (2 * k), hx g (2 * k + 1)] := by
  unfold hp
  rw [show 2 * (k + 1) = 2 * k + 1 + 1 by omega, List.range_succ, List.range_succ]
  simp
theorem below2 {W wr w2 : World} {v : Value} {n : Nat} {xs : List Value} {o : Obj} (hbr : Below W.heap.size W wr) (hown : wr.ownsRow W.heap.size 5 1 v n xs) (hgrow : ((wr.alloc o).drew).grownBy w2 v.ownBlock) : Below W.heap.size W w2 :=
  ((hbr.alloc hbr.size _).drew).grown hgrow (by have := hbr.size; simp; omega) (fun k0 hk0 => (hown.lt k0 hk0).1)
theorem keepH {W wr w2 : World} {v : Value} {n : Nat} {xs : List Value} {o : Obj} {B k : Nat} {c : Value} (hbr : Below W.heap.size W wr) (hown : wr.ownsRow W.heap.size 5 1 v n xs) (hB : B < W.heap.size) (gc : wr.cell? ⟨B, k, none⟩ = some c) (hgrow : ((wr.alloc o).drew).grownBy w2 v.ownBlock) : w2.cell? ⟨B, k, none⟩ = some c := by
  rw [(below2 hbr hown hgrow).cell (p := ⟨B, k, none⟩) hB]
  rw [hbr.cell (p := ⟨B, k, none⟩) hB] at gc
  exact gc
theorem keepA {W wr : World} {o : Obj} {B k : Nat} {c : Value} (hbr : Below W.heap.size W wr) (hB : B < W.heap.size) (gc : wr.cell? ⟨B, k, none⟩ = some c) : (wr.alloc o).cell? ⟨B, k, none⟩ = some c := by
  have h2 := hbr.alloc hbr.size o
  rw [h2.cell (p := ⟨B, k, none⟩) hB]
  rw [hbr.cell (p := ⟨B, k, none⟩) hB] at gc
  exact gc
noncomputable def ixS (v i : Value) : Sem Value := Instr.index 9 v i
theorem ix9 (v i : Value) : Instr.index 9 v i = ixS v i := rfl
theorem ixdig : ∀ n : Nat, n < 16 → ∀ w, (ixS (.string ⟨#[48, 49, 50, 51, 52, 53, 54, 55, 56, 57, 97, 98, 99, 100, 101, 102]⟩) (.int .u8 (n : Int))).run Tryz.prog w = .ok (.int .u8 ((Sha.dig n).toNat : Int)) w := idxdig
attribute [local go_sem ↓] ix9
attribute [local go_sem ↓] Go.wp_at_zero Go.wp_at_succ
set_option maxHeartbeats 1000000 in
set_option maxRecDepth 8000 in
theorem refHex_any (g : Nat → UInt8) (w : World) :
    Calls Tryz.prog 119 #[.agg (b32 g)] w fun e w' => e = .returned (.string ⟨(hexL g).toArray⟩) ∧ Below w.heap.size w w' := by
  obtain ⟨i0, hi0, hz0, hz1, hz2⟩ : ∃ i, Tryz.prog.info? 5 = some i ∧ i.zero = some (.int .u8 0) ∧ i.size = 1 ∧ i.bytes = 1 := by
    have := info5f
    cases hq : Tryz.prog.info? 5 with
    | none => rw [hq] at this; cases this
    | some i => rw [hq] at this; simp at this; exact ⟨i, rfl, this.1, this.2.1, this.2.2⟩
  go_enter Tryz.func119, Tryz.ntmps119
  go_wp2_with fail
  obtain ⟨W, hW, hb0, h1, hB⟩ : ∃ W, W = w.alloc (Obj.cells (b32 g) 44) ∧ Below w.heap.size w W ∧ W.heap[w.heap.size]? = some (.cells (b32 g) 44 (0, 0)) ∧ W.heap.size = w.heap.size + 1 :=
    ⟨_, rfl, (Below.refl _ _).alloc (Nat.le_refl _) _, heap_alloc_new _ _, by simp⟩
  rw [← hW]
  clear hW
  have HB : Hid (W.heap.size = w.heap.size + 1) := hB
  clear hB
  generalize hBB : w.heap.size = B at *
  go_loopw [3, 4] (fun v i wr => ∃ k : Nat, k ≤ 32 ∧ i = .int .i64 k ∧ wr.ownsRow W.heap.size 5 1 v (2 * k) (vals (hp g (2 * k))) ∧ Below W.heap.size W wr) (fun _ i _ => 32 - (intOf i).toNat)
  case atStart => exact ⟨0, Nat.zero_le _, rfl, World.ownsRow_nil _ _ _ _, Below.refl _ _⟩
  case round =>
    obtain ⟨k, hk, rfl, hown, hbr⟩ := hrel
    have hrow : wr.heap[B]? = some (.cells (b32 g) 44 (0, 0)) := by rw [hbr.block B (by have := HB.out; omega)]; exact h1
    by_cases hlt : k < 32
    · have hd : decide ((k : Int) < 32) = true := decide_eq_true (by omega)
      have i0' : (0 : Int) ≤ (k : Int) := by omega
      have i1 : (k : Int) < 32 := by omega
      have gc : wr.cell? ⟨B, k, none⟩ = some (.int .u8 ((g k).toNat : Int)) := by rw [cell_of_row _ _ _ _ _ _ hrow, b32_get g k hlt]
      have hx0 : Hid (hx g (2 * k) = Sha.dig ((g k).toNat / 16)) := by show _ = _; unfold hx; rw [if_pos (by omega), show 2 * k / 2 = k by omega]
      have hx1 : Hid (hx g (2 * k + 1) = Sha.dig ((g k).toNat % 16)) := by show _ = _; unfold hx; rw [if_neg (by omega), show (2 * k + 1) / 2 = k by omega]
      have hlt8 : (g k).toNat < 256 := (g k).toNat_lt
      obtain ⟨hi, hhi, ehi⟩ : ∃ hi : Nat, hi = (g k).toNat / 16 ∧ ((g k).toNat : Int) / 16 = (hi : Int) := ⟨(g k).toNat / 16, rfl, by omega⟩
      obtain ⟨lo, hlo, elo⟩ : ∃ lo : Nat, lo = (g k).toNat % 16 ∧ ((g k).toNat : Int) % 16 = (lo : Int) := ⟨(g k).toNat % 16, rfl, by omega⟩
      rw [← hhi] at hx0
      rw [← hlo] at hx1
      have whi : IntKind.u8.wrap (hi : Int) = (hi : Int) := by rw [IntKind.wrap_u8]; omega
      have elo2 : ((g k).toNat : Int).tmod 16 = (lo : Int) := by rw [Int.tmod_eq_emod_of_nonneg (by omega)]; exact elo
      have dhi := ixdig hi (by omega)
      have dlo := ixdig lo (by omega)
      have HX : Hid (vals (hp g (2 * (k + 1))) = vals (hp g (2 * k)) ++ [.int .u8 ((Sha.dig hi).toNat : Int), .int .u8 ((Sha.dig lo).toNat : Int)]) := by
        show _ = _; rw [hp_succ2, vals_append, hx0.out, hx1.out]; rfl
      clear hhi hlo hlt8 hrow
      have f1 : 2 * k + 2 ≤ maxLen := by unfold maxLen; omega
      have f2 : (2 * k + 2) * 1 ≤ 140737488355328 := by omega
      have f3 : W.heap.size ≤ wr.heap.size + 1 := by have := hbr.size; omega
      go_wp2_with fail
      have hBW : B < W.heap.size := by have := HB.out; omega
      go_region_held3 (fun w' => w'.cell? ⟨B, k, none⟩ = some (.int .u8 ((g k).toNat : Int))) (first | (go_keep; done) | exact gc | exact keepA hbr hBW gc | exact keepH hbr hown hBW gc hgrow)
        ((refine step_append_lies _ (by rfl) _ _ _ (by rfl) W.heap.size 5 i0 _ 1 1 Tryz.underlying47 hi0 hz0 hz1 hz2 rfl (by omega) _ (2 * k) (vals (hp g (2 * k))) (by rfl) ((hown.alloc _).drew) ⟨wr.heap.size, 0, none⟩ 2 2 [.int .u8 ((Sha.dig hi).toNat : Int), .int .u8 ((Sha.dig lo).toNat : Int)] (by rfl) (by rfl) (World.news_of_block (cs := #[.int .u8 ((Sha.dig hi).toNat : Int), .int .u8 ((Sha.dig lo).toNat : Int)]) (t := 5) (fr := (0, 0)) (heap_alloc_new wr _)) (by simp [Value.oneCell']) (by omega) f1 f2 (by simpa using f3) (wr.heap.size + 1) (by simp) ?_; intro gg cap w2 hown1 hgrow hat hlt2))
      all_goals
        have hb2 : Below W.heap.size W w2 := below2 hbr hown hgrow
        have hown2 : w2.ownsRow W.heap.size 5 1 (Value.slice (some { block := gg, off := 0 }) (2 * k + 2) cap) (2 * (k + 1)) (vals (hp g (2 * (k + 1)))) := by rw [HX.out]; exact hown1
        clear hgrow hat hlt2 hown1 hown
        go_wp2_with fail
        exact ⟨⟨k + 1, by omega, by go_num, hown2, hb2⟩, by simp [intOf]; omega⟩
    · obtain rfl : k = 32 := by omega
      have hd : decide ((32 : Int) < 32) = false := by decide
      have hcv := conv_own hown (by simp [hp])
      have HL : Hid (hp g (2 * 32) = hexL g) := rfl
      generalize hp g (2 * 32) = L at *
      go_wp2_with fail
      go_ret
      exact ⟨by rw [HL.out]; rfl, by subst hBB; exact hb0.trans (hbr.mono (by rw [HB.out]; omega))⟩
end Go.Proofs.YtdnejpokcjiodaaGreatDoorH
