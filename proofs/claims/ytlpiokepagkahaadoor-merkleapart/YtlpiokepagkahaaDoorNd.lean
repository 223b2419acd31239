/- The node of two hashes. -/
import Derived.Test.YtlpiokepagkahaaDoorHv
namespace Go.Proofs.YtlpiokepagkahaaDoor
set_option linter.unusedVariables false
set_option linter.unusedSimpArgs false
open Go.RowKit
attribute [local go_sem ↓] Go.wp_at_zero Go.wp_at_succ
structure NS (w : World) (B : Nat) (a b : Hs) (w' : World) : Prop where
  k : KIn w'
  bel : Below B w w'
  ha : w'.heap[B]? = some (.cells (hv a).toArray 23 (0, 0))
  hb : w'.heap[B + 1]? = some (.cells (hv b).toArray 23 (0, 0))
  hc : w'.there (B + 1 + 1) 0 32
theorem NS.next {w w2 w3 : World} {B : Nat} {a b : Hs} (h : NS w B a b w2) (bq : Below w2.heap.size w2 w3) : NS w B a b w3 :=
  ⟨h.k.seq bq, h.bel.trans (bq.mono (by have := lt_of_row h.ha; omega)), carry h.ha bq, carry h.hb bq, thereNext h.hc bq⟩
theorem NS.drew {w w2 : World} {B : Nat} {a b : Hs} (h : NS w B a b w2) : NS w B a b w2.drew := h.next ((Below.refl _ _).drew)
theorem conv32 {w' : World} {B : Nat} {g : Hs} (h : w'.heap[B]? = some (.cells (hv g).toArray 23 (0, 0))) : (convert 49 9 (.slice (some ⟨B, 0, none⟩) 32 32)).run Tryd.prog w' = .ok (.string ⟨(hl g).toArray⟩) w' := by
  rw [hv_b32] at h; exact conv_row h
theorem NS.facts {w w2 : World} {B : Nat} {a b : Hs} (h : NS w B a b w2) : NS w B a b w2 ∧ (convert 49 9 (.slice (some ⟨B, 0, none⟩) 32 32)).run Tryd.prog w2 = .ok (.string ⟨(hl a).toArray⟩) w2 ∧ (convert 49 9 (.slice (some ⟨B + 1, 0, none⟩) 32 32)).run Tryd.prog w2 = .ok (.string ⟨(hl b).toArray⟩) w2 ∧
    w2.there (B + 1 + 1) 0 (hv (node a b)).length :=
  ⟨h, conv32 h.ha, conv32 h.hb, by rw [hv_length]; exact h.hc⟩
theorem setCells_other (w : World) (g : Nat) {i : Nat} (hne : i ≠ g) : ∀ (vs : List Value) (o : Nat) {w : World}, (w.setCells g o vs).heap[i]? = w.heap[i]?
  | [], _, _ => rfl
  | v :: r, o, w => by rw [World.setCells, setCells_other w g hne r (o + 1)]; exact Below.heap_setCell w ⟨g, o, none⟩ v i hne
theorem NS.set {w w2 : World} {B : Nat} {a b : Hs} (vs : List Value) (h : NS w B a b w2) (hB : 0 < B) : NS w B a b (w2.setCells (B + 1 + 1) 0 vs) := by
  have bb : Below B w2 (w2.setCells (B + 1 + 1) 0 vs) := below_setCells (by omega) vs 0 (Below.refl B w2)
  exact ⟨h.k.below bb hB, h.bel.trans bb, by rw [setCells_other w _ (by omega)]; exact h.ha, by rw [setCells_other w _ (by omega)]; exact h.hb, World.there_setCells h.hc _ _ _⟩
theorem sum3 (a b : Hs) {w : World} (hK : KIn w) : Calls Tryd.prog 22 #[.string ((⟨#[1]⟩ : ByteArray) ++ ⟨(hl a).toArray⟩ ++ ⟨(hl b).toArray⟩)] w fun e w' => e = .returned (.agg (hv (node a b)).toArray) ∧ Below w.heap.size w w' := by
  have e1 : ((⟨#[1]⟩ : ByteArray) ++ ⟨(hl a).toArray⟩ ++ ⟨(hl b).toArray⟩) = ⟨(1 :: (hl a ++ hl b)).toArray⟩ := by
    have a1 : (⟨#[1]⟩ : ByteArray) = ⟨([1] : List UInt8).toArray⟩ := rfl
    rw [a1, ByteArray.mk_append_mk, ByteArray.mk_append_mk]
    rfl
  rw [e1]
  have h0 := sum_hv ⟨(1 :: (hl a ++ hl b)).toArray⟩ w hK (by show (1 :: (hl a ++ hl b)).toArray.size < _; rw [List.size_toArray]; simp [hl_length])
  rw [node_eq]
  exact h0
theorem NS.start (w : World) (a b : Hs) (hK : KIn w) {Z : Array Value} (hZ : Z.size = 32) : NS w w.heap.size a b (((w.alloc (.cells (hv a).toArray 23)).alloc (.cells (hv b).toArray 23)).alloc (.cells Z 23)) := by
  have bb : Below w.heap.size w (((w.alloc (.cells (hv a).toArray 23)).alloc (.cells (hv b).toArray 23)).alloc (.cells Z 23)) := (((Below.refl _ _).alloc (Nat.le_refl _) _).alloc (by simp) _).alloc (by simp; omega) _
  refine ⟨hK.seq bb, bb, ?_, ?_, there_of_row (C := Z) (T := 23) ?_ 0 (by omega)⟩
  · rw [heap_alloc_old _ _ (by simp; omega), heap_alloc2_old]
  · rw [heap_alloc_old _ _ (by simp), heap_alloc2_new]
  · have := heap_alloc_new ((w.alloc (Obj.cells (hv a).toArray 23)).alloc (Obj.cells (hv b).toArray 23)) (Obj.cells Z 23)
    simpa using this
abbrev zero32 : Array Value := #[.int .u8 0, .int .u8 0, .int .u8 0, .int .u8 0, .int .u8 0, .int .u8 0, .int .u8 0, .int .u8 0, .int .u8 0, .int .u8 0, .int .u8 0, .int .u8 0, .int .u8 0, .int .u8 0, .int .u8 0, .int .u8 0, .int .u8 0, .int .u8 0, .int .u8 0, .int .u8 0, .int .u8 0, .int .u8 0, .int .u8 0, .int .u8 0, .int .u8 0, .int .u8 0, .int .u8 0, .int .u8 0, .int .u8 0, .int .u8 0, .int .u8 0, .int .u8 0]
set_option maxHeartbeats 400000 in
set_option maxRecDepth 8000 in
theorem node_hv (a b : Hs) (w : World) (hK : KIn w) :
    Calls Tryd.prog 13 #[.agg (hv a).toArray, .agg (hv b).toArray] w fun e w' => e = .returned (.agg (hv (node a b)).toArray) ∧ Below w.heap.size w w' := by
  go_enter Tryd.func13, Tryd.ntmps13
  go_wp2_with fail
  obtain ⟨W, hW, S0⟩ : ∃ W, W = ((w.alloc (.cells (hv a).toArray 23)).alloc (.cells (hv b).toArray 23)).alloc (.cells zero32 23) ∧ NS w w.heap.size a b W := ⟨_, rfl, NS.start w a b hK (by simp)⟩
  rw [← hW]
  clear hW
  have hB0 := hK.lt
  generalize hB : w.heap.size = B at *
  have hLa : (hl a).length = 32 := hl_length a
  have hLb : (hl b).length = 32 := hl_length b
  have s1 : ¬ 9223372036854775807 < (⟨#[1]⟩ : ByteArray).size + (⟨(hl a).toArray⟩ : ByteArray).size := by show ¬ _ < 1 + (hl a).toArray.size; rw [List.size_toArray, hLa]; omega
  have s2 : ¬ 9223372036854775807 < ((⟨#[1]⟩ : ByteArray) ++ ⟨(hl a).toArray⟩).size + (⟨(hl b).toArray⟩ : ByteArray).size := by rw [ByteArray.size_append]; show ¬ _ < 1 + (hl a).toArray.size + (hl b).toArray.size; rw [List.size_toArray, List.size_toArray, hLa, hLb]; omega
  have s3 : ¬ 9223372036854775807 < 1 + 32 := by omega
  have s4 : ¬ 9223372036854775807 < 1 + 32 + 32 := by omega
  have o1 := hv_one (node a b)
  have o2 := infoH (node a b)
  go_region_held3 (fun w' => NS w B a b w' ∧ (convert 49 9 (.slice (some ⟨B, 0, none⟩) 32 32)).run Tryd.prog w' = .ok (.string ⟨(hl a).toArray⟩) w' ∧ (convert 49 9 (.slice (some ⟨B + 1, 0, none⟩) 32 32)).run Tryd.prog w' = .ok (.string ⟨(hl b).toArray⟩) w' ∧ w'.there (B + 1 + 1) 0 (hv (node a b)).length)
    (first | exact S0.drew.facts | exact S0.facts | exact (NS.next (And.left (by assumption)) bq).facts | exact (NS.set _ (And.left (by assumption)) hB0).facts) ((go_at_call 22; refine (sum3 a b (NS.k (And.left (by assumption)))).mono ?_; rintro e w' ⟨rfl, bq⟩))
  have N1 := S0.drew.next bq
  have R0 : (w'.setCells (B + 1 + 1) 0 (hv (node a b))).rangeAt (B + 1 + 1) 0 (hv (node a b)) := World.rangeAt_setCells_same _ _ _ _ (by rw [hv_length]; exact N1.hc)
  have L0 := (NS.set (hv (node a b)) N1 hB0).bel
  go_wp2
  exact bodyPost_ret (v := .agg (hv (node a b)).toArray) (results_mid Tryd.results13 _ _ (B + 1 + 1) (node a b) rfl R0) rfl ⟨rfl, by subst hB; exact L0⟩
end Go.Proofs.YtlpiokepagkahaaDoor
