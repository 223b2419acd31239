/- The reference: the digits. -/
import Derived.Test.YtcmmbdcflblekaaGreatDoorGz
import Derived.Test.YtcmmbdcflblekaaGreatDoorGd
namespace Go.Proofs.YtcmmbdcflblekaaGreatDoorH
set_option maxRecDepth 100000
set_option linter.unusedVariables false
set_option linter.unusedSimpArgs false
open Go.RowKit
theorem conv_own {wr : World} {base k : Nat} {v : Value} {l : List UInt8} (h : wr.ownsRow base 5 1 v k (vals l)) (hl : l.length = k) : (convert 47 9 v).run Tryz.prog wr = .ok (.string ⟨l.toArray⟩) wr := by
  rcases h.2 with ⟨rfl, h0⟩ | ⟨g, cap, cur, rfl, _, _⟩
  · have : l = [] := List.length_eq_zero_iff.1 (by omega)
    subst this
    exact run_convert_bytes_nil wr 47 5 Tryz.underlying47 Tryz.underlying5 0 0 9 Tryz.underlying9
  · have hg := (h.lt g rfl).2
    subst hl
    refine run_convert_bytes_back wr 47 9 5 ⟨g, 0, none⟩ cap l Tryz.underlying47 Tryz.underlying5 Tryz.underlying9 ?_
    intro j hj
    have hadd : (⟨g, 0, none⟩ : Addr).add j = ⟨g, j, none⟩ := by unfold Addr.add; split <;> simp_all
    rw [hadd, h.cellAt j (by omega)]
    simp [vals, hj]
def hp (g : Nat → UInt8) (n : Nat) : List UInt8 := (List.range n).map (hx g)
theorem hp_succ2 (g : Nat → UInt8) (k : Nat) : hp g (2 * (k + 1)) = hp g (2 * k) ++ [hx g (2 * k), hx g (2 * k + 1)] := by
  unfold hp
  rw [show 2 * (k + 1) = 2 * k + 1 + 1 by omega, List.range_succ, List.range_succ]
  simp
theorem below2 {W wr w2 : World} {v : Value} {n : Nat} {xs : List Value} {o : Obj} (hbr : Below W.heap.size W wr) (hown : wr.ownsRow W.heap.size 5 1 v n xs) (hgrow : ((wr.alloc o).drew).grownBy w2 v.ownBlock) : Below W.heap.size W w2 :=
  ((hbr.alloc hbr.size _).drew).grown hgrow (by have := hbr.size; simp; omega) (fun k0 hk0 => (hown.lt k0 hk0).1)
theorem keepH {W wr w2 : World} {v : Value} {n : Nat} {xs : List Value} {o : Obj} {B k : Nat} {c : Value} (hbr : Below W.heap.size W wr) (hown : wr.ownsRow W.heap.size 5 1 v n xs) (hB : B < W.heap.size) (gc : wr.cell? ⟨B, k, none⟩ = some c) (hgrow : ((wr.alloc o).drew).grownBy w2 v.ownBlock) : w2.cell? ⟨B, k, none⟩ = some c := by
  rw [(below2 hbr hown hgrow).cell (p := ⟨B, k, none⟩) hB]
  rw [hbr.cell (p := ⟨B, k, none⟩) hB] at gc
  exact gc
theorem keepA {W wr : World} {o : Obj} {B k : Nat} {c : Value} (hbr : Below W.heap.size W wr) (hB : B < W.heap.size) (gc : wr.cell? ⟨B, k, none⟩ = some c) : (wr.alloc o).cell? ⟨B, k, none⟩ = some c := by
  have h2 := hbr.alloc hbr.size o
  rw [h2.cell (p := ⟨B, k, none⟩) hB]
  rw [hbr.cell (p := ⟨B, k, none⟩) hB] at gc
  exact gc
noncomputable def ixS (v i : Value) : Sem Value := Instr.index 9 v i
theorem ix9 (v i : Value) : Instr.index 9 v i = ixS v i := rfl
theorem ixdig : ∀ n : Nat, n < 16 → ∀ w, (ixS (.string ⟨#[48, 49, 50, 51, 52, 53, 54, 55, 56, 57, 97, 98, 99, 100, 101, 102]⟩) (.int .u8 (n : Int))).run Tryz.prog w = .ok (.int .u8 ((Sha.dig n).toNat : Int)) w := idxdig
attribute [local go_sem ↓] ix9
attribute [local go_sem ↓] Go.wp_at_zero Go.wp_at_succ
end Go.Proofs.YtcmmbdcflblekaaGreatDoorH
