import Derived.Test.YtjoaiagiankfdaaDoorDig
import Derived.Test.YtjoaiagiankfdaaDoorLift
import Derived.Deep.DeepCutAuto
namespace Go.Proofs.YtjoaiagiankfdaaDoor
set_option linter.unusedVariables false
set_option linter.unusedSimpArgs false
open Go.RowKit
namespace hashBack
def oneB (c : UInt8) : ByteArray := ⟨[c].toArray⟩
theorem convAt (c : UInt8) (W : World) (b : Nat) (h : W.heap[b]? = some (.cells #[.int .u8 (c.toNat : Int)] 5 (0, 0))) : (convert 27 9 (.slice (some ⟨b, 0, none⟩) 1 1)).run Tryd.prog W = .ok (.string (oneB c)) W := by
  refine run_convert_bytes_back (P := Tryd.prog) _ 27 9 5 ⟨b, 0, none⟩ 1 [c] Tryd.underlying27 Tryd.underlying5 Tryd.underlying9 ?_
  intro j hj
  have hj0 : j = 0 := by simp at hj; exact hj
  subst hj0
  have hadd : (⟨b, 0, none⟩ : Addr).add 0 = ⟨b, 0, none⟩ := by unfold Addr.add; split <;> simp_all
  rw [hadd, cell_of_row _ _ _ _ _ _ h]
  rfl
theorem conv1 (c : UInt8) (W : World) : (convert 27 9 (.slice (some ⟨W.heap.size, 0, none⟩) 1 1)).run Tryd.prog (W.alloc (.cells #[.int .u8 (c.toNat : Int)] 5)).drew = .ok (.string (oneB c)) (W.alloc (.cells #[.int .u8 (c.toNat : Int)] 5)).drew :=
  convAt c _ _ (heap_alloc_new W _)
theorem conv2 (c : UInt8) (W : World) : (convert 27 9 (.slice (some ⟨W.heap.size, 0, none⟩) 1 1)).run Tryd.prog ((W.alloc (.cells #[.int .u8 (c.toNat : Int)] 5)).alloc (.cells z32 22)).drew = .ok (.string (oneB c)) ((W.alloc (.cells #[.int .u8 (c.toNat : Int)] 5)).alloc (.cells z32 22)).drew :=
  convAt c _ _ (heap_alloc2_old W _ _)
theorem conv3 (c : UInt8) (W : World) : (convert 27 9 (.slice (some ⟨W.heap.size + 1, 0, none⟩) 1 1)).run Tryd.prog ((W.alloc (.cells z32 22)).alloc (.cells #[.int .u8 (c.toNat : Int)] 5)).drew = .ok (.string (oneB c)) ((W.alloc (.cells z32 22)).alloc (.cells #[.int .u8 (c.toNat : Int)] 5)).drew :=
  convAt c _ _ (heap_alloc2_new W _ _)
theorem oneB_size (c : UInt8) : (oneB c).size = 1 := rfl
theorem carry2 {a b : World} (bq : Below a.heap.size a b) {g : Nat} {o : Obj} (h : a.heap[g]? = some o) : b.heap[g]? = some o := carry h bq
theorem stC {W w9 : World} (b9 : Below W.heap.size W w9) (Z : Nat → UInt8) (B' : Nat) (h : W.heap[B']? = some (.cells z32 22 (0, 0))) :
    (stS 22 (.pointer (some ⟨B', 0, none⟩)) (.agg (b32 Z))).run Tryd.prog w9 = .ok () (w9.setRow B' (b32 Z)) := by
  have h9 := carry h b9
  show (Instr.storeAt 22 (.pointer (some ⟨B', 0, none⟩)) (.agg (b32 Z))).run Tryd.prog w9 = _
  simp only [Instr.storeAt, Instr.sureAddr, Sem.run_bind, Sem.run_pure, Result.andThen_ok, run_storeVar_row _ B' 22 22 z32 (b32 Z) h9 (info22b Z) (by rw [b32_size]; rfl) (b32_one Z)]
theorem pre1 {w wc W w9 : World} {B : Nat} {o1 : Obj} (hB : B ≤ w.heap.size) (bx : Below B w wc) (hW : W = (wc.alloc o1).drew) (b9 : Below W.heap.size W w9) : Below B w w9 := by
  subst hW
  have b1 : Below B w (wc.alloc o1).drew := (bx.alloc (by have := bx.size; omega) _).drew
  exact b1.trans (b9.mono (by have := b1.size; omega))
theorem pre2 {w wc W w9 : World} {B : Nat} {o1 o2 : Obj} (hB : B ≤ w.heap.size) (bx : Below B w wc) (hW : W = ((wc.alloc o1).alloc o2).drew) (b9 : Below W.heap.size W w9) : Below B w w9 := by
  subst hW
  have b1 : Below B w ((wc.alloc o1).alloc o2).drew := ((bx.alloc (by have := bx.size; omega) _).alloc (by have := bx.size; simp; omega) _).drew
  exact b1.trans (b9.mono (by have := b1.size; omega))
theorem ext_list (D : ByteArray) (a b : Nat) : (D.extract a b).data.toList = (D.data.toList.drop a).take (b - a) := by
  rw [ByteArray.data_extract, Array.toList_extract]
theorem app_list (a b : ByteArray) : (a ++ b).data.toList = a.data.toList ++ b.data.toList := by
  rw [ByteArray.data_append, Array.toList_append]
theorem turned_list {D : ByteArray} {l : List UInt8} {K K1 : Nat} {c : UInt8} (hD : D.data.toList = l) (hs : D.size = 64) (hK : K < 64) (hK1 : K1 = K + 1) : (D.extract 0 K ++ oneB c ++ D.extract K1 64).data.toList = l.take K ++ [c] ++ l.drop (K + 1) := by
  have hl : l.length = 64 := by rw [← hD, Array.length_toList]; exact hs
  rw [app_list, app_list, ext_list, ext_list, hD, hK1, List.drop_zero, Nat.sub_zero]
  have e : (l.drop (K + 1)).take (64 - (K + 1)) = l.drop (K + 1) := List.take_of_length_le (by rw [List.length_drop]; omega)
  rw [e]
  rfl
end hashBack
end Go.Proofs.YtjoaiagiankfdaaDoor
