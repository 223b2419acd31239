/- The reference: the constants, and a block's step. -/
import Derived.Test.YtjoaiagiankfdaaDoorRWords
import Derived.Test.YtjoaiagiankfdaaDoorWrite
namespace Go.Proofs.YtjoaiagiankfdaaDoor
set_option linter.unusedVariables false
set_option linter.unusedSimpArgs false
open Go.RowKit
abbrev z8 : Array Value := #[.int .u32 0, .int .u32 0, .int .u32 0, .int .u32 0, .int .u32 0, .int .u32 0, .int .u32 0, .int .u32 0]
abbrev z64w : Array Value := #[.int .u32 0, .int .u32 0, .int .u32 0, .int .u32 0, .int .u32 0, .int .u32 0, .int .u32 0, .int .u32 0, .int .u32 0, .int .u32 0, .int .u32 0, .int .u32 0, .int .u32 0, .int .u32 0, .int .u32 0, .int .u32 0, .int .u32 0, .int .u32 0, .int .u32 0, .int .u32 0, .int .u32 0, .int .u32 0, .int .u32 0, .int .u32 0, .int .u32 0, .int .u32 0, .int .u32 0, .int .u32 0, .int .u32 0, .int .u32 0, .int .u32 0, .int .u32 0, .int .u32 0, .int .u32 0, .int .u32 0, .int .u32 0, .int .u32 0, .int .u32 0, .int .u32 0, .int .u32 0, .int .u32 0, .int .u32 0, .int .u32 0, .int .u32 0, .int .u32 0, .int .u32 0, .int .u32 0, .int .u32 0, .int .u32 0, .int .u32 0, .int .u32 0, .int .u32 0, .int .u32 0, .int .u32 0, .int .u32 0, .int .u32 0, .int .u32 0, .int .u32 0, .int .u32 0, .int .u32 0, .int .u32 0, .int .u32 0, .int .u32 0, .int .u32 0]
theorem st54 (p v : Value) : Instr.storeAt 54 p v = stS 54 p v := rfl
theorem ld54 (v : Value) : Instr.loadAt 54 v = ldS 54 v := rfl
theorem ldRow {w : World} {B T : Nat} {A : Array Value} {n e : Nat} (h : w.heap[B]? = some (.cells A T (0, 0))) (hu : Tryd.prog.underlying T = some (.array n e)) (hi : (Tryd.prog.info? T).map (·.size) = some A.size) :
    (ldS T (.pointer (some ⟨B, 0, none⟩))).run Tryd.prog w = .ok (.agg A) w := by
  show (Instr.loadAt T (.pointer (some ⟨B, 0, none⟩))).run Tryd.prog w = _
  simp only [Instr.loadAt, Instr.sureAddr, Sem.run_bind, Sem.run_pure, Result.andThen_ok, run_loadVar_row _ B T T A (0, 0) _ h hu rfl hi]
theorem stRow {w : World} {B T : Nat} {old A : Array Value} (h : w.heap[B]? = some (.cells old T (0, 0))) (hi : (Tryd.prog.info? T).map (·.size) = some A.size) (ho : old.size = A.size) (h1 : A.all (·.oneCell') = true) :
    (stS T (.pointer (some ⟨B, 0, none⟩)) (.agg A)).run Tryd.prog w = .ok () (w.setRow B A) := by
  show (Instr.storeAt T (.pointer (some ⟨B, 0, none⟩)) (.agg A)).run Tryd.prog w = _
  simp only [Instr.storeAt, Instr.sureAddr, Sem.run_bind, Sem.run_pure, Result.andThen_ok, run_storeVar_row _ B T T old A h hi ho h1]
theorem words64_size (f : Nat → BitVec 32) : (words64 f).size = 64 := by simp [words64]
theorem words64_one (f : Nat → BitVec 32) : (words64 f).all (·.oneCell') = true := by
  rw [Array.all_eq_true]; intro i h; simp only [words64, Array.getElem_map]; rfl
theorem words8_one (s : Sha.S8) : (words8 s).all (·.oneCell') = true := by simp [words8, Value.oneCell']
theorem info54w (f : Nat → BitVec 32) : (Tryd.prog.info? 54).map (·.size) = some (words64 f).size := by rw [words64_size]; exact info54
theorem new_row (w : World) (c A : Array Value) (t : TypeId) : (w.alloc (.cells c t)).setRow w.heap.size A = w.alloc (.cells A t) := World.setRow_alloc_new w c A t
def kcs : Array Value := #[.int .u32 1116352408, .int .u32 1899447441, .int .u32 3049323471, .int .u32 3921009573, .int .u32 961987163, .int .u32 1508970993, .int .u32 2453635748, .int .u32 2870763221, .int .u32 3624381080, .int .u32 310598401, .int .u32 607225278, .int .u32 1426881987, .int .u32 1925078388, .int .u32 2162078206, .int .u32 2614888103, .int .u32 3248222580, .int .u32 3835390401, .int .u32 4022224774, .int .u32 264347078, .int .u32 604807628, .int .u32 770255983, .int .u32 1249150122, .int .u32 1555081692, .int .u32 1996064986, .int .u32 2554220882, .int .u32 2821834349, .int .u32 2952996808, .int .u32 3210313671, .int .u32 3336571891, .int .u32 3584528711, .int .u32 113926993, .int .u32 338241895, .int .u32 666307205, .int .u32 773529912, .int .u32 1294757372, .int .u32 1396182291, .int .u32 1695183700, .int .u32 1986661051, .int .u32 2177026350, .int .u32 2456956037, .int .u32 2730485921, .int .u32 2820302411, .int .u32 3259730800, .int .u32 3345764771, .int .u32 3516065817, .int .u32 3600352804, .int .u32 4094571909, .int .u32 275423344, .int .u32 430227734, .int .u32 506948616, .int .u32 659060556, .int .u32 883997877, .int .u32 958139571, .int .u32 1322822218, .int .u32 1537002063, .int .u32 1747873779, .int .u32 1955562222, .int .u32 2024104815, .int .u32 2227730452, .int .u32 2361852424, .int .u32 2428436474, .int .u32 2756734187, .int .u32 3204031479, .int .u32 3329325298]
theorem kcs_eq : kcs = words64 Sha.kt := by kernel_rfl
set_option maxHeartbeats 1000000 in
set_option maxRecDepth 20000 in
theorem consts_any (w : World) :
    Calls Tryd.prog 25 #[] w fun e w' => e = .returned (.agg (words64 Sha.kt)) ∧ Below w.heap.size w w' := by
  have hs : kcs.size = 64 := by rw [kcs_eq]; exact words64_size _
  have hi : (Tryd.prog.info? 54).map (·.size) = some kcs.size := by rw [hs]; exact info54
  have h1 : kcs.all (·.oneCell') = true := by rw [kcs_eq]; exact words64_one _
  go_enter Tryd.func25, Tryd.ntmps25
  go_wp2_with (refine wpList_store_row rfl 54 _ _ rfl _ kcs rfl rfl 54 _ (heap_alloc_new _ _) hi hs.symm h1 ?_)
  refine bodyPost_ret (v := .agg kcs) (results_cell_row Tryd.results25 _ _ w.heap.size 54 kcs (0, 0) _ rfl (setRow_heap _ _ _ _ _ _ (heap_alloc_new _ _)) Tryd.underlying54 rfl hi) rfl ⟨by rw [kcs_eq], below_setRow ((Below.refl _ _).alloc (Nat.le_refl _) _) (Nat.le_refl _) _⟩
end Go.Proofs.YtjoaiagiankfdaaDoor
