/- The reference's leaf and node. -/
import Derived.Test.YtlpiokepagkahaaDoorTxt
import Derived.Test.YtlpiokepagkahaaDoorRSum
namespace Go.Proofs.YtlpiokepagkahaaDoor
set_option linter.unusedVariables false
set_option linter.unusedSimpArgs false
open Go.RowKit
attribute [local go_sem ↓] Go.wp_at_zero Go.wp_at_succ
theorem refSum_hv (s : ByteArray) (w : World) (hs : s.size ≤ 140737488351232) :
    Calls Tryd.prog 30 #[.string s] w fun e w' => e = .returned (.agg (hv (dg s.data.toList)).toArray) ∧ Below w.heap.size w w' := by
  rw [hv_b32]; exact refSum_any s w hs
theorem refSum3 (a b : Hs) (w : World) : Calls Tryd.prog 30 #[.string ((⟨#[1]⟩ : ByteArray) ++ ⟨(hl a).toArray⟩ ++ ⟨(hl b).toArray⟩)] w fun e w' => e = .returned (.agg (hv (node a b)).toArray) ∧ Below w.heap.size w w' := by
  have e1 : ((⟨#[1]⟩ : ByteArray) ++ ⟨(hl a).toArray⟩ ++ ⟨(hl b).toArray⟩) = ⟨(1 :: (hl a ++ hl b)).toArray⟩ := by
    have a1 : (⟨#[1]⟩ : ByteArray) = ⟨([1] : List UInt8).toArray⟩ := rfl
    rw [a1, ByteArray.mk_append_mk, ByteArray.mk_append_mk]
    rfl
  rw [e1]
  have h0 := refSum_hv ⟨(1 :: (hl a ++ hl b)).toArray⟩ w (by show (1 :: (hl a ++ hl b)).toArray.size ≤ _; rw [List.size_toArray]; simp [hl_length])
  rw [node_eq]
  exact h0
theorem refSum2 (w : World) : Calls Tryd.prog 30 #[.string ⟨#[2]⟩] w fun e w' => e = .returned (.agg (hv none0).toArray) ∧ Below w.heap.size w w' := by
  rw [none0_eq]; exact refSum_hv ⟨#[2]⟩ w (by decide)
theorem refSumL (s : ByteArray) (w : World) (hs : s.size ≤ 2097152) : Calls Tryd.prog 30 #[.string ((⟨#[0]⟩ : ByteArray) ++ s)] w fun e w' => e = .returned (.agg (hv (leaf s.data.toList)).toArray) ∧ Below w.heap.size w w' := by
  have h0 := refSum_hv (⟨#[0]⟩ ++ s) w (by rw [ByteArray.size_append]; show 1 + s.size ≤ _; omega)
  have e : ((⟨#[0]⟩ : ByteArray) ++ s).data.toList = 0 :: s.data.toList := by rw [ByteArray.data_append, Array.toList_append]; rfl
  rw [e] at h0
  rw [leaf_eq]
  exact h0
attribute [local go_sem ↓] ld23 st23
set_option maxHeartbeats 400000 in
set_option maxRecDepth 8000 in
theorem refLeaf_hv (s : ByteArray) (w : World) (hs : s.size ≤ 2097152) :
    Calls Tryd.prog 18 #[.string s] w fun e w' => e = .returned (.agg (hv (leaf s.data.toList)).toArray) ∧ Below w.heap.size w w' := by
  have s1 : ¬ 9223372036854775807 < (⟨#[0]⟩ : ByteArray).size + s.size := by show ¬ _ < 1 + s.size; omega
  have s2 : ¬ 9223372036854775807 < 1 + s.size := by omega
  have b0 : Below w.heap.size w (w.alloc (.cells zero32 23)) := (Below.refl _ _).alloc (Nat.le_refl _) _
  have t0 := there_new w 23
  go_enter Tryd.func18, Tryd.ntmps18
  go_wp2_with fail
  refine (refSumL s _ hs).mono ?_
  rintro e w2 ⟨rfl, bq⟩
  have t2 := thereNext t0 bq
  have b2 := below_seq b0 bq
  go_wp2_with (refine wpList_store_mid rfl 23 _ _ rfl w.heap.size 0 _ rfl rfl (there_hv t2 _) (size_hv _) (all_oneCell_toArray (hv_one _)) ?_)
  exact bodyPost_ret (v := .agg (hv (leaf s.data.toList)).toArray) (results_mid Tryd.results18 _ _ w.heap.size (leaf s.data.toList) rfl (range_new t2 _)) rfl ⟨rfl, below_setCells (Nat.le_refl _) _ _ b2⟩
set_option maxHeartbeats 400000 in
set_option maxRecDepth 8000 in
theorem refNode_hv (a b : Hs) (w : World) (hK : KIn w) :
    Calls Tryd.prog 19 #[.agg (hv a).toArray, .agg (hv b).toArray] w fun e w' => e = .returned (.agg (hv (node a b)).toArray) ∧ Below w.heap.size w w' := by
  go_enter Tryd.func19, Tryd.ntmps19
  go_wp2_with fail
  obtain ⟨W, hW, S0⟩ : ∃ W, W = ((w.alloc (.cells (hv a).toArray 23)).alloc (.cells (hv b).toArray 23)).alloc (.cells zero32 23) ∧ NS w w.heap.size a b W := ⟨_, rfl, NS.start w a b hK (by simp)⟩
  rw [← hW]
  clear hW
  have hB0 := hK.lt
  generalize hB : w.heap.size = B at *
  have hLa : (hl a).length = 32 := hl_length a
  have hLb : (hl b).length = 32 := hl_length b
  have s1 : ¬ 9223372036854775807 < (⟨#[1]⟩ : ByteArray).size + (⟨(hl a).toArray⟩ : ByteArray).size := by show ¬ _ < 1 + (hl a).toArray.size; rw [List.size_toArray, hLa]; omega
  have s2 : ¬ 9223372036854775807 < ((⟨#[1]⟩ : ByteArray) ++ ⟨(hl a).toArray⟩).size + (⟨(hl b).toArray⟩ : ByteArray).size := by rw [ByteArray.size_append]; show ¬ _ < 1 + (hl a).toArray.size + (hl b).toArray.size; rw [List.size_toArray, List.size_toArray, hLa, hLb]; omega
  have s3 : ¬ 9223372036854775807 < 1 + 32 := by omega
  have s4 : ¬ 9223372036854775807 < 1 + 32 + 32 := by omega
  have o1 := hv_one (node a b)
  have o2 := infoH (node a b)
  go_region_held3 (fun w' => NS w B a b w' ∧ (convert 49 9 (.slice (some ⟨B, 0, none⟩) 32 32)).run Tryd.prog w' = .ok (.string ⟨(hl a).toArray⟩) w' ∧ (convert 49 9 (.slice (some ⟨B + 1, 0, none⟩) 32 32)).run Tryd.prog w' = .ok (.string ⟨(hl b).toArray⟩) w' ∧ w'.there (B + 1 + 1) 0 (hv (node a b)).length)
    (first | exact S0.drew.facts | exact S0.facts | exact (NS.next (And.left (by assumption)) bq).facts | exact (NS.set _ (And.left (by assumption)) hB0).facts) ((go_at_call 30; refine (refSum3 a b _).mono ?_; rintro e w' ⟨rfl, bq⟩))
  have N1 := S0.drew.next bq
  have R0 : (w'.setCells (B + 1 + 1) 0 (hv (node a b))).rangeAt (B + 1 + 1) 0 (hv (node a b)) := World.rangeAt_setCells_same _ _ _ _ (by rw [hv_length]; exact N1.hc)
  have L0 := (NS.set (hv (node a b)) N1 hB0).bel
  go_wp2
  exact bodyPost_ret (v := .agg (hv (node a b)).toArray) (results_mid Tryd.results19 _ _ (B + 1 + 1) (node a b) rfl R0) rfl ⟨rfl, by subst hB; exact L0⟩
end Go.Proofs.YtlpiokepagkahaaDoor
