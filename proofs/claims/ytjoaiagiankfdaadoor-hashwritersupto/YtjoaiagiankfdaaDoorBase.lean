import Derived.Test.YtjoaiagiankfdaaDoorBits
import Derived.Deep.WholeRow
import Derived.BigQuiet
import Derived.Deep.QuietTactic
import Derived.Laws.CopyOwn
namespace Go.Proofs.YtjoaiagiankfdaaDoor
set_option linter.unusedVariables false
set_option linter.unusedSimpArgs false
open Go.RowKit
theorem rotI (x : BitVec 32) (i : Int) (h0 : 0 < i) (h : i < 32) (w : World) :
    Calls Tryd.prog 29 #[.int .u32 (x.toNat : Int), .int .i64 i] w fun e w' => e = .returned (.int .u32 ((Sha.rr x i.toNat).toNat : Int)) ∧ w' = w := by
  obtain ⟨n, rfl⟩ : ∃ n : Nat, i = (n : Int) := ⟨i.toNat, by omega⟩
  exact rot x n (by omega) (by omega) w
def words8 (s : Sha.S8) : Array Value := #[.int .u32 (s.a.toNat : Int), .int .u32 (s.b.toNat : Int), .int .u32 (s.c.toNat : Int), .int .u32 (s.d.toNat : Int), .int .u32 (s.e.toNat : Int), .int .u32 (s.f.toNat : Int), .int .u32 (s.g.toNat : Int), .int .u32 (s.h.toNat : Int)]
def zero8 : Array Value := #[.int .u32 0, .int .u32 0, .int .u32 0, .int .u32 0, .int .u32 0, .int .u32 0, .int .u32 0, .int .u32 0]
def words64 (f : Nat → BitVec 32) : Array Value := (Array.range 64).map fun j => .int .u32 ((f j).toNat : Int)
theorem words64_get (f : Nat → BitVec 32) (k : Nat) (h : k < 64) : (words64 f)[k]? = some (.int .u32 ((f k).toNat : Int)) := by
  simp [words64, h]
def KIn (w : World) : Prop := ∀ t, t < 64 → w.cell? ⟨0, t, none⟩ = some (.int .u32 ((Sha.kt t).toNat : Int))
theorem KIn.lt {w : World} (h : KIn w) : 0 < w.heap.size := block_lt_of_cell (h 0 (by decide))
theorem KIn.below {B : Nat} {w w' : World} (h : KIn w) (b : Below B w w') (hB : 0 < B) : KIn w' := fun t ht => by
  rw [b.cell (p := ⟨0, t, none⟩) hB]; exact h t ht
theorem no_bv' (x : BitVec 32) : bits BinOp.xor IntKind.u32 (if IntKind.u32.signed = true then -1 else IntKind.u32.max) (x.toNat : Int) = ((Sha.no x).toNat : Int) := no_bv x
def mx (k j : Nat) (a b : BitVec 32) : BitVec 32 := if j < k then Sha.ad a b else a
def mix (s r : Sha.S8) (k : Nat) : Array Value := #[.int .u32 ((mx k 0 s.a r.a).toNat : Int), .int .u32 ((mx k 1 s.b r.b).toNat : Int), .int .u32 ((mx k 2 s.c r.c).toNat : Int), .int .u32 ((mx k 3 s.d r.d).toNat : Int), .int .u32 ((mx k 4 s.e r.e).toNat : Int), .int .u32 ((mx k 5 s.f r.f).toNat : Int), .int .u32 ((mx k 6 s.g r.g).toNat : Int), .int .u32 ((mx k 7 s.h r.h).toNat : Int)]
theorem info49 : (Tryd.prog.info? 49).map (·.size) = some 8 := by kernel_rfl
theorem one_mix (s r : Sha.S8) (k : Nat) : (mix s r k).all (·.oneCell') = true := by simp [mix, Value.oneCell']
theorem cell_set (wr : World) (g j : Nat) (cs : Array Value) (t : TypeId) (v : Value) (h : wr.heap[g]? = some (.cells cs t (0, 0))) : (wr.setCell ⟨g, j, none⟩ v).heap[g]? = some (.cells (cs.setIfInBounds j v) t (0, 0)) :=
  heap_setCell_same wr g j cs t v h
theorem mix_get (s r : Sha.S8) : ∀ k, k < 8 → (mix s r k)[k]? = some (.int .u32 ((Sha.word s k).toNat : Int))
  | 0, _ | 1, _ | 2, _ | 3, _ | 4, _ | 5, _ | 6, _ | 7, _ => rfl
  | k + 8, h => by omega
theorem words8_get (r : Sha.S8) : ∀ k, k < 8 → (words8 r)[k]? = some (.int .u32 ((Sha.word r k).toNat : Int))
  | 0, _ | 1, _ | 2, _ | 3, _ | 4, _ | 5, _ | 6, _ | 7, _ => rfl
  | k + 8, h => by omega
theorem mix_succ (s r : Sha.S8) : ∀ k, k < 8 → (mix s r k).setIfInBounds k (.int .u32 ((Sha.ad (Sha.word s k) (Sha.word r k)).toNat : Int)) = mix s r (k + 1)
  | 0, _ | 1, _ | 2, _ | 3, _ | 4, _ | 5, _ | 6, _ | 7, _ => rfl
  | k + 8, h => by omega
theorem idx49 (cs : Array Value) (k : Nat) (h : k < 8) (q : Int) (hv : cs[k]? = some (.int .u32 q)) (w : World) : (Instr.index 49 (.agg cs) (.int .i64 (k : Int))).run Tryd.prog w = .ok (.int .u32 q) w := by
  have h2 : (k : Int) < 8 := by omega
  have h3 : k < cs.size := by
    rcases Nat.lt_or_ge k cs.size with h | h
    · exact h
    · rw [Array.getElem?_eq_none h] at hv; exact absurd hv (by simp)
  rw [Array.getElem?_eq_getElem h3] at hv
  have h4 := Option.some.inj hv
  simp [Instr.index, Tryd.underlying49, go_sem, h2, h3, h, h4]
end Go.Proofs.YtjoaiagiankfdaaDoor
