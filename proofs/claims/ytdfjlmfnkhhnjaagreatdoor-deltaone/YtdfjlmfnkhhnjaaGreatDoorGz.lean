import Derived.Test.YtdfjlmfnkhhnjaaGreatDoorGb
import Derived.OwnWalk
import Derived.Deep.AppendLies
import Derived.Laws.OwnMore
import Derived.Lib.AppendStr
import Derived.Test.YtdfjlmfnkhhnjaaGreatDoorGd
import Derived.Test.YtdfjlmfnkhhnjaaGreatDoorGc
import Derived.Test.YtdfjlmfnkhhnjaaGreatDoorGg
/- The reference: the turn to the right, and the 64 numbers of a block. -/
namespace Go.Proofs.YtdfjlmfnkhhnjaaGreatDoorH
set_option maxRecDepth 100000
set_option linter.unusedVariables false
set_option linter.unusedSimpArgs false
open Go.RowKit
def RW (w : World) (f : Nat → UInt8) (k : Nat) (wr : World) : Prop :=
  Below w.heap.size w wr ∧ wr.heap[w.heap.size]? = some (.cells (pw f 0) 172 (0, 0)) ∧ wr.heap[w.heap.size + 1]? = some (.cells (pw f k) 172 (0, 0))
theorem RW.set {w : World} {f : Nat → UInt8} {k : Nat} {wr : World} (h : RW w f k wr) (hk : k < 64) {B : Nat} (hB : w.heap.size = B) {q : Int} (hq : q = ((Sha.wt f k).toNat : Int)) : RW w f (k + 1) ((wr.setCell ⟨B + 1, k, none⟩ (.int .u32 q)).drew) := by
  subst hB hq
  obtain ⟨a, c, d⟩ := h
  refine ⟨(a.setCell (by show w.heap.size ≤ w.heap.size + 1; omega) _).drew, ?_, ?_⟩
  · rw [heap_drew, Below.heap_setCell _ _ _ _ (by show w.heap.size ≠ w.heap.size + 1; omega), c]
  · rw [heap_drew, cell_set _ _ _ _ _ _ d, pw_set f k hk]
attribute [local go_sem] xo_bv ad_bv sr3_bv sr10_bv
attribute [local go_sem ↓] Go.wp_at_zero Go.wp_at_succ
end Go.Proofs.YtdfjlmfnkhhnjaaGreatDoorH

/- The reference: the padded text. -/
namespace Go.Proofs.YtdfjlmfnkhhnjaaGreatDoorH
set_option maxRecDepth 100000
set_option linter.unusedVariables false
set_option linter.unusedSimpArgs false
open Go.RowKit
theorem info5f : (Tryz.prog.info? 5).map (fun i => (i.zero, i.size, i.bytes)) = some (some (.int .u8 0), 1, 1) := by kernel_rfl
theorem vals_append (a b : List UInt8) : vals (a ++ b) = vals a ++ vals b := List.map_append ..
theorem below_grow {w wr w2 : World} {v : Value} {o : Obj} {k : Nat} {xs : List Value} (hbr : Below w.heap.size w wr) (hown : wr.ownsRow w.heap.size 5 1 v k xs) (hg : (wr.alloc o).grownBy w2 v.ownBlock) : Below w.heap.size w w2 :=
  (hbr.alloc hbr.size _).grown hg (by have := hbr.size; simp; omega) (fun k0 hk0 => (hown.lt k0 hk0).1)
def zs (n j : Nat) (m : List UInt8) : List UInt8 := m ++ 128 :: List.replicate j 0
def ls (n k : Nat) (m : List UInt8) : List UInt8 := m ++ 128 :: (List.replicate ((119 - n % 64) % 64) 0 ++ (List.range k).map (Sha.lenByte n))
end Go.Proofs.YtdfjlmfnkhhnjaaGreatDoorH

/- The reference: the digits. -/
namespace Go.Proofs.YtdfjlmfnkhhnjaaGreatDoorH
set_option maxRecDepth 100000
set_option linter.unusedVariables false
set_option linter.unusedSimpArgs false
open Go.RowKit
theorem conv_own {wr : World} {base k : Nat} {v : Value} {l : List UInt8} (h : wr.ownsRow base 5 1 v k (vals l)) (hl : l.length = k) : (convert 47 9 v).run Tryz.prog wr = .ok (.string ⟨l.toArray⟩) wr := by
  rcases h.2 with ⟨rfl, h0⟩ | ⟨g, cap, cur, rfl, _, _⟩
  · have : l = [] := List.length_eq_zero_iff.1 (by omega)
    subst this
    exact run_convert_bytes_nil wr 47 5 Tryz.underlying47 Tryz.underlying5 0 0 9 Tryz.underlying9
  · have hg := (h.lt g rfl).2
    subst hl
    refine run_convert_bytes_back wr 47 9 5 ⟨g, 0, none⟩ cap l Tryz.underlying47 Tryz.underlying5 Tryz.underlying9 ?_
    intro j hj
    have hadd : (⟨g, 0, none⟩ : Addr).add j = ⟨g, j, none⟩ := by unfold Addr.add; split <;> simp_all
    rw [hadd, h.cellAt j (by omega)]
    simp [vals, hj]
def hp (g : Nat → UInt8) (n : Nat) : List UInt8 := (List.range n).map (hx g)
theorem below2 {W wr w2 : World} {v : Value} {n : Nat} {xs : List Value} {o : Obj} (hbr : Below W.heap.size W wr) (hown : wr.ownsRow W.heap.size 5 1 v n xs) (hgrow : ((wr.alloc o).drew).grownBy w2 v.ownBlock) : Below W.heap.size W w2 :=
  ((hbr.alloc hbr.size _).drew).grown hgrow (by have := hbr.size; simp; omega) (fun k0 hk0 => (hown.lt k0 hk0).1)
noncomputable def ixS (v i : Value) : Sem Value := Instr.index 9 v i
theorem ix9 (v i : Value) : Instr.index 9 v i = ixS v i := rfl
attribute [local go_sem ↓] ix9
attribute [local go_sem ↓] Go.wp_at_zero Go.wp_at_succ
end Go.Proofs.YtdfjlmfnkhhnjaaGreatDoorH

/- The reference: the constants, and a block's step. -/
namespace Go.Proofs.YtdfjlmfnkhhnjaaGreatDoorH
set_option maxRecDepth 100000
set_option linter.unusedVariables false
set_option linter.unusedSimpArgs false
open Go.RowKit
abbrev z8 : Array Value := #[.int .u32 0, .int .u32 0, .int .u32 0, .int .u32 0, .int .u32 0, .int .u32 0, .int .u32 0, .int .u32 0]
theorem st54 (p v : Value) : Instr.storeAt 172 p v = stS 172 p v := rfl
theorem ld54 (v : Value) : Instr.loadAt 172 v = ldS 172 v := rfl
end Go.Proofs.YtdfjlmfnkhhnjaaGreatDoorH

/- The reference: a block's step. -/
namespace Go.Proofs.YtdfjlmfnkhhnjaaGreatDoorH
set_option maxRecDepth 100000
set_option linter.unusedVariables false
set_option linter.unusedSimpArgs false
open Go.RowKit
/-- The blocks that the step has made. -/
structure BR (w : World) (s r : Sha.S8) (F : Nat → BitVec 32) (X : Nat) (wr : World) : Prop where
  bel : Below w.heap.size w wr
  was : wr.heap[w.heap.size]? = some (.cells (words8 s) 167 (0, 0))
  kk : wr.heap[w.heap.size + 1]? = some (.cells (words64 Sha.kt) 172 (0, 0))
  res : wr.heap[w.heap.size + 1 + 1]? = some (.cells z8 167 (0, 0))
  v : wr.heap[w.heap.size + 1 + 1 + 1]? = some (.cells (words8 r) 167 (0, 0))
  ws : wr.heap[X]? = some (.cells (words64 F) 172 (0, 0))
theorem BR.drewN {w : World} {s r : Sha.S8} {F : Nat → BitVec 32} {X : Nat} {wr : World} (h : BR w s r F X wr) (n : Nat) : BR w s r F X (wr.drewN n) :=
  ⟨⟨h.bel.os, h.bel.tape, h.bel.output, h.bel.size, h.bel.block⟩, h.was, h.kk, h.res, h.v, h.ws⟩
theorem BR.next {w : World} {s r r' : Sha.S8} {F : Nat → BitVec 32} {X : Nat} {wr : World} (h : BR w s r F X wr) (hX : w.heap.size + 1 + 1 + 1 < X) : BR w s r' F X (wr.setRow (w.heap.size + 1 + 1 + 1) (words8 r')) :=
  ⟨below_setRow h.bel (by omega) _, by rw [setRow_other _ _ _ _ (by omega)]; exact h.was, by rw [setRow_other _ _ _ _ (by omega)]; exact h.kk, by rw [setRow_other _ _ _ _ (by omega)]; exact h.res, setRow_heap _ _ _ _ _ _ h.v, by rw [setRow_other _ _ _ _ (by omega)]; exact h.ws⟩
attribute [local go_sem] xo_bv an_bv no_bv' ad_bv
attribute [local go_sem ↓] ld49 st49 ld54 st54
attribute [local go_sem ↓] Go.wp_at_zero Go.wp_at_succ
end Go.Proofs.YtdfjlmfnkhhnjaaGreatDoorH

/- The reference: the hash. -/
namespace Go.Proofs.YtdfjlmfnkhhnjaaGreatDoorH
set_option maxRecDepth 100000
set_option linter.unusedVariables false
set_option linter.unusedSimpArgs false
open Go.RowKit
theorem iv_lit : (#[.int .u32 1779033703, .int .u32 3144134277, .int .u32 1013904242, .int .u32 2773480762, .int .u32 1359893119, .int .u32 2600822924, .int .u32 528734635, .int .u32 1541459225] : Array Value) = words8 Sha.iv := by kernel_rfl
noncomputable def slS (v : Value) (a b c : Option Value) : Sem Value := Instr.sliceAt 47 v a b c
theorem sl27 (v : Value) (a b c : Option Value) : Instr.sliceAt 47 v a b c = slS v a b c := rfl
attribute [local go_sem ↓] ld49 st49 ld54 st54 sl27
attribute [local go_sem] iv_lit
attribute [local go_sem ↓] Go.wp_at_zero Go.wp_at_succ
end Go.Proofs.YtdfjlmfnkhhnjaaGreatDoorH

/- The document's leaf. -/
namespace Go.Proofs.YtdfjlmfnkhhnjaaGreatDoorH
set_option maxRecDepth 100000
set_option linter.unusedVariables false
set_option linter.unusedSimpArgs false
open Go.RowKit
attribute [local go_sem ↓] Go.wp_at_zero Go.wp_at_succ
abbrev zero32 : Array Value := #[.int .u8 0, .int .u8 0, .int .u8 0, .int .u8 0, .int .u8 0, .int .u8 0, .int .u8 0, .int .u8 0, .int .u8 0, .int .u8 0, .int .u8 0, .int .u8 0, .int .u8 0, .int .u8 0, .int .u8 0, .int .u8 0, .int .u8 0, .int .u8 0, .int .u8 0, .int .u8 0, .int .u8 0, .int .u8 0, .int .u8 0, .int .u8 0, .int .u8 0, .int .u8 0, .int .u8 0, .int .u8 0, .int .u8 0, .int .u8 0, .int .u8 0, .int .u8 0]
theorem size_hv (g : Hs) : (Tryz.prog.info? 44).map (·.size) = some (hv g).toArray.size := by rw [List.size_toArray]; exact infoH _
theorem there_hv {w : World} {B : Nat} (h : w.there B 0 32) (g : Hs) : w.there B 0 (hv g).toArray.size := by rw [List.size_toArray, hv_length]; exact h
theorem there_new (w : World) (T : TypeId) : (w.alloc (.cells zero32 T)).there w.heap.size 0 32 := there_of_row (heap_alloc_new _ _) 0 (by simp)
theorem range_new {w : World} {B : Nat} (h : w.there B 0 32) (g : Hs) : (w.setCells B 0 (hv g)).rangeAt B 0 (hv g) := World.rangeAt_setCells_same _ _ _ _ (by rw [hv_length]; exact h)
end Go.Proofs.YtdfjlmfnkhhnjaaGreatDoorH
