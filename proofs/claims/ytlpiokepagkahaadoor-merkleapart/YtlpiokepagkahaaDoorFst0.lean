/- What the document gives: numbers reckoned by the kernel. -/
import Derived.Test.YtlpiokepagkahaaDoorHld
namespace Go.Proofs.YtlpiokepagkahaaDoor
set_option linter.unusedVariables false
set_option linter.unusedSimpArgs false
open Go.RowKit
def L0 : List UInt8 := [110, 52, 11, 156, 255, 179, 122, 152, 156, 165, 68, 230, 187, 120, 10, 44, 120, 144, 29, 63, 179, 55, 56, 118, 133, 17, 163, 6, 23, 175, 160, 29]
def L1 : List UInt8 := [150, 162, 150, 210, 36, 242, 133, 198, 123, 238, 147, 195, 15, 138, 48, 145, 87, 240, 218, 163, 93, 197, 184, 126, 65, 11, 120, 99, 10, 9, 207, 199]
theorem hl0 : hl (dg [0]) = L0 := by decide +kernel
theorem hl1 : hl (dg [0, 0]) = L1 := by decide +kernel
theorem dgb0 : dg (1 :: (L0 ++ L1)) 0 = 250 := by decide +kernel
theorem dgb1 : dg (1 :: (L0 ++ L1)) 1 = 197 := by decide +kernel
theorem dgb31 : dg (1 :: (L0 ++ L1)) 31 = 37 := by decide +kernel
noncomputable def fa : Hs := leaf []
noncomputable def fb : Hs := node (leaf []) (leaf [0])
theorem hl_nth (g : Hs) (j : Nat) (hj : j < 32) : (hl g)[j]? = some (g j) := by simp [hl, hj]
theorem fa0 : fa 0 = 110 := by
  have := hl_nth (dg [0]) 0 (by decide); rw [hl0] at this; unfold fa; rw [leaf_eq]; exact (Option.some.inj this).symm
theorem fa1 : fa 1 = 52 := by
  have := hl_nth (dg [0]) 1 (by decide); rw [hl0] at this; unfold fa; rw [leaf_eq]; exact (Option.some.inj this).symm
theorem fa31 : fa 31 = 29 := by
  have := hl_nth (dg [0]) 31 (by decide); rw [hl0] at this; unfold fa; rw [leaf_eq]; exact (Option.some.inj this).symm
theorem fb_eq : fb = dg (1 :: (L0 ++ L1)) := by unfold fb; rw [node_eq, leaf_eq, leaf_eq, hl0, hl1]
theorem fb0 : fb 0 = 250 := by rw [fb_eq]; exact dgb0
theorem fb1 : fb 1 = 197 := by rw [fb_eq]; exact dgb1
theorem fb31 : fb 31 = 37 := by rw [fb_eq]; exact dgb31
theorem fab : eqb fa fb = false := by
  cases h : eqb fa fb with
  | false => rfl
  | true =>
    unfold eqb at h
    rw [List.all_eq_true] at h
    have := h 0 (by simp)
    rw [fa0, fb0] at this
    exact absurd this (by decide)
def txt2 (k : Nat) : ByteArray := if k = 0 then ⟨#[]⟩ else ⟨#[0]⟩
def txt3 (k : Nat) : ByteArray := if k = 0 then ⟨#[97]⟩ else if k = 1 then ⟨#[98]⟩ else ⟨#[99]⟩
theorem texts2 {w : World} {b : Nat} {T : TypeId} {fr : Nat × Nat} (h : w.heap[b]? = some (.cells #[.string ⟨#[]⟩, .string ⟨#[0]⟩] T fr)) : TextsAt w b 0 2 txt2 := fun k hk => by
  rw [Nat.zero_add, cell_of_row _ _ _ _ _ _ h]
  match k, hk with
  | 0, _ => rfl
  | 1, _ => rfl
theorem texts3 {w : World} {b : Nat} {T : TypeId} {fr : Nat × Nat} (h : w.heap[b]? = some (.cells #[.string ⟨#[97]⟩, .string ⟨#[98]⟩, .string ⟨#[99]⟩] T fr)) : TextsAt w b 0 3 txt3 := fun k hk => by
  rw [Nat.zero_add, cell_of_row _ _ _ _ _ _ h]
  match k, hk with
  | 0, _ => rfl
  | 1, _ => rfl
  | 2, _ => rfl
theorem txt2_size (k : Nat) : (txt2 k).size < 1152921504606845000 := by unfold txt2; split <;> decide
theorem txt3_size (k : Nat) : (txt3 k).size < 1152921504606845000 := by unfold txt3; split; decide; split <;> decide
noncomputable def fab2 : Hs := node (leaf [97]) (leaf [98])
theorem root2 : rootOf 2 txt2 = fb := by
  unfold rootOf
  rw [if_neg (by omega), Tree.root_more node _ (by omega), Tree.root_one node _ (by decide)]
  unfold Tree.up
  rw [if_pos (by omega)]
  rfl
theorem path3 : Tree.path node 3 (leaves txt3) 2 = [fab2] := by
  rw [Tree.path_alone node _ _ (by omega) (by decide), Tree.path_side node _ _ (by decide) (by decide), Tree.path_one node _ _ (by decide)]
  rfl
end Go.Proofs.YtlpiokepagkahaaDoor
