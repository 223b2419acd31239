/- The document's leaf. -/
import Derived.Test.YtkkhmlcnfnaadaaGreatDoorGg
import Derived.Test.YtkkhmlcnfnaadaaGreatDoorGz
namespace Go.Proofs.YtkkhmlcnfnaadaaGreatDoorH
set_option maxRecDepth 100000
set_option linter.unusedVariables false
set_option linter.unusedSimpArgs false
open Go.RowKit
attribute [local go_sem ↓] Go.wp_at_zero Go.wp_at_succ
abbrev zero32 : Array Value := #[.int .u8 0, .int .u8 0, .int .u8 0, .int .u8 0, .int .u8 0, .int .u8 0, .int .u8 0, .int .u8 0, .int .u8 0, .int .u8 0, .int .u8 0, .int .u8 0, .int .u8 0, .int .u8 0, .int .u8 0, .int .u8 0, .int .u8 0, .int .u8 0, .int .u8 0, .int .u8 0, .int .u8 0, .int .u8 0, .int .u8 0, .int .u8 0, .int .u8 0, .int .u8 0, .int .u8 0, .int .u8 0, .int .u8 0, .int .u8 0, .int .u8 0, .int .u8 0]
theorem size_hv (g : Hs) : (Tryz.prog.info? 44).map (·.size) = some (hv g).toArray.size := by rw [List.size_toArray]; exact infoH _
theorem there_hv {w : World} {B : Nat} (h : w.there B 0 32) (g : Hs) : w.there B 0 (hv g).toArray.size := by rw [List.size_toArray, hv_length]; exact h
theorem there_new (w : World) (T : TypeId) : (w.alloc (.cells zero32 T)).there w.heap.size 0 32 := there_of_row (heap_alloc_new _ _) 0 (by simp)
theorem range_new {w : World} {B : Nat} (h : w.there B 0 32) (g : Hs) : (w.setCells B 0 (hv g)).rangeAt B 0 (hv g) := World.rangeAt_setCells_same _ _ _ _ (by rw [hv_length]; exact h)
theorem refSum_hv (s : ByteArray) (w : World) (hs : s.size ≤ 140737488351232) :
    Calls Tryz.prog 70 #[.string s] w fun e w' => e = .returned (.agg (hv (dg s.data.toList)).toArray) ∧ Below w.heap.size w w' := by
  rw [hv_b32]; exact refSum_any s w hs
theorem refSumL (s : ByteArray) (w : World) (hs : s.size ≤ 2097152) : Calls Tryz.prog 70 #[.string ((⟨#[0]⟩ : ByteArray) ++ s)] w fun e w' => e = .returned (.agg (hv (leaf s.data.toList)).toArray) ∧ Below w.heap.size w w' := by
  have h0 := refSum_hv (⟨#[0]⟩ ++ s) w (by rw [ByteArray.size_append]; show 1 + s.size ≤ _; omega)
  have e : ((⟨#[0]⟩ : ByteArray) ++ s).data.toList = 0 :: s.data.toList := by rw [ByteArray.data_append, Array.toList_append]; rfl
  rw [e] at h0
  rw [leaf_eq]
  exact h0
set_option maxHeartbeats 400000 in
set_option maxRecDepth 8000 in
theorem refLeaf_hv (s : ByteArray) (w : World) (hs : s.size ≤ 2097152) :
    Calls Tryz.prog 38 #[.string s] w fun e w' => e = .returned (.agg (hv (leaf s.data.toList)).toArray) ∧ Below w.heap.size w w' := by
  have s1 : ¬ 9223372036854775807 < (⟨#[0]⟩ : ByteArray).size + s.size := by show ¬ _ < 1 + s.size; omega
  have s2 : ¬ 9223372036854775807 < 1 + s.size := by omega
  have b0 : Below w.heap.size w (w.alloc (.cells zero32 44)) := (Below.refl _ _).alloc (Nat.le_refl _) _
  have t0 := there_new w 44
  go_enter Tryz.func38, Tryz.ntmps38
  go_wp2_with fail
  refine (refSumL s _ hs).mono ?_
  rintro e w2 ⟨rfl, bq⟩
  have t2 := thereNext t0 bq
  have b2 := below_seq b0 bq
  go_wp2_with (refine wpList_store_mid rfl 44 _ _ rfl w.heap.size 0 _ rfl rfl (there_hv t2 _) (size_hv _) (all_oneCell_toArray (hv_one _)) ?_)
  exact bodyPost_ret (v := .agg (hv (leaf s.data.toList)).toArray) (results_mid Tryz.results38 _ _ w.heap.size (leaf s.data.toList) rfl (range_new t2 _)) rfl ⟨rfl, below_setCells (Nat.le_refl _) _ _ b2⟩
end Go.Proofs.YtkkhmlcnfnaadaaGreatDoorH
