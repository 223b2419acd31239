/- The leaf of a text, the node of two hashes. -/
import Derived.Test.YtlpiokepagkahaaDoorHead
import Derived.Test.YtlpiokepagkahaaDoorEq
namespace Go.Proofs.YtlpiokepagkahaaDoor
set_option linter.unusedVariables false
set_option linter.unusedSimpArgs false
open Go.RowKit
abbrev Hs := Nat → UInt8
def hl (g : Hs) : List UInt8 := (List.range 32).map g
theorem hl_length (g : Hs) : (hl g).length = 32 := by simp [hl]
theorem hl_congr {g h : Hs} (e : ∀ j, j < 32 → g j = h j) : hl g = hl h := by
  unfold hl; apply List.map_congr_left; intro j hj; exact e j (List.mem_range.1 hj)
/- The three are told by their equations alone, so that nothing opens them on the way. -/
noncomputable def leaf : List UInt8 → Hs := Classical.choose (⟨_, rfl⟩ : ∃ f : List UInt8 → Hs, f = fun t => dg (0 :: t))
noncomputable def node : Hs → Hs → Hs := Classical.choose (⟨_, rfl⟩ : ∃ f : Hs → Hs → Hs, f = fun a b => dg (1 :: (hl a ++ hl b)))
noncomputable def none0 : Hs := Classical.choose (⟨_, rfl⟩ : ∃ f : Hs, f = dg [2])
theorem leaf_eq (t : List UInt8) : leaf t = dg (0 :: t) := congrFun (Classical.choose_spec (⟨_, rfl⟩ : ∃ f : List UInt8 → Hs, f = fun t => dg (0 :: t))) t
theorem node_eq (a b : Hs) : node a b = dg (1 :: (hl a ++ hl b)) := congrFun (congrFun (Classical.choose_spec (⟨_, rfl⟩ : ∃ f : Hs → Hs → Hs, f = fun a b => dg (1 :: (hl a ++ hl b)))) a) b
theorem none0_eq : none0 = dg [2] := Classical.choose_spec (⟨_, rfl⟩ : ∃ f : Hs, f = dg [2])
theorem node_congr {a b c d : Hs} (e1 : ∀ j, j < 32 → a j = c j) (e2 : ∀ j, j < 32 → b j = d j) : node a b = node c d := by
  rw [node_eq, node_eq, hl_congr e1, hl_congr e2]
set_option maxHeartbeats 400000 in
set_option maxRecDepth 8000 in
theorem leaf_any (s : ByteArray) (w : World) (hK : KIn w) (hs : s.size < 1152921504606845000) :
    Calls Tryd.prog 12 #[.string s] w fun e w' => e = .returned (.agg (b32 (leaf s.data.toList))) ∧ Below w.heap.size w w' := by
  go_enter Tryd.func12, Tryd.ntmps12
  go_wp2_with fail
  obtain ⟨W, hW, q, b0⟩ : ∃ W, W = w.alloc (.cells _ 23) ∧ W.heap[w.heap.size]? = some (.cells (pb 32 (leaf s.data.toList) 0) 23 (0, 0)) ∧ Below w.heap.size w W :=
    ⟨_, rfl, row22 w (leaf s.data.toList) (pb32 _).symm, (Below.refl _ _).alloc (Nat.le_refl _) _⟩
  rw [← hW]
  clear hW
  have k0 : KIn W := hK.seq b0
  have hB0 : w.heap.size < W.heap.size := lt_of_row q
  refine (new_any W).mono ?_
  rintro e w1 ⟨rfl, W1, b1⟩
  have k1 := k0.seq b1
  have q1 := carry q b1
  have b01 := below_seq b0 b1
  go_wp2_with fail
  refine (write_any W.heap.size [] ⟨#[0]⟩ w1 k1 (by omega) W1 (by show 0 + 1 < _; omega)).mono ?_
  rintro e w2 ⟨rfl, W2, b2⟩
  rw [List.nil_append] at W2
  have k2 := b2.kin k1 (by omega)
  have q2 : w2.heap[w.heap.size]? = some (.cells (pb 32 (leaf s.data.toList) 0) 23 (0, 0)) := by
    rw [b2.block _ (by have := b1.size; omega) (by omega)]; exact q1
  have b02 : Below w.heap.size w w2 := b01.trans (b2.below (by have := b1.size; omega) (by omega))
  go_wp2_with fail
  refine (write_any W.heap.size [0] s w2 k2 (by omega) W2 (by show 1 + s.size < _; omega)).mono ?_
  rintro e w3 ⟨rfl, W3, b3⟩
  have k3 := b3.kin k2 (by omega)
  have q3 : w3.heap[w.heap.size]? = some (.cells (pb 32 (leaf s.data.toList) 0) 23 (0, 0)) := by
    rw [b3.block _ (lt_of_row q2) (by omega)]; exact q2
  have b03 : Below w.heap.size w w3 := b02.trans (b3.below (by have := lt_of_row q2; omega) (by omega))
  have hlen : ([0] ++ s.data.toList).length < 1152921504606846000 := by
    rw [List.length_append, Array.length_toList]; show 1 + s.size < _; omega
  go_wp2_with fail
  refine (wsum_any W.heap.size ([0] ++ s.data.toList) w3 k3 W3 hlen).mono ?_
  rintro e w4 ⟨rfl, b4⟩
  have q4 := carry q3 b4
  have b04 := below_seq b03 b4
  have hgg : dg ([0] ++ s.data.toList) = leaf s.data.toList := (leaf_eq _).symm
  rw [hgg]
  generalize hg : leaf s.data.toList = g at *
  have HG : Hid (leaf s.data.toList = g) := hg
  clear hg hgg
  clear W3 W2 W1 k0 k1 k2 k3 q q1 q2 q3 b01 b02 b03 b0 b1 b2 b3 b4 hlen hB0 hK
  have ho := b32_one g
  have hz : (pb 32 g 0).size = (b32 g).size := by rw [b32_size, pb_size]
  have hi := info22b g
  go_wp2_with (refine wpList_store_row rfl 23 _ _ rfl _ _ rfl rfl 23 _ q4 hi hz ho ?_)
  exact bodyPost_ret (v := .agg (b32 g)) (results_cell_row Tryd.results12 _ _ w.heap.size 23 (b32 g) (0, 0) _ rfl (setRow_heap _ _ _ _ _ _ q4) Tryd.underlying23 rfl hi) rfl ⟨by rw [HG.out], below_setRow b04 (Nat.le_refl _) _⟩
end Go.Proofs.YtlpiokepagkahaaDoor
