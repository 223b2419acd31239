/- The root of the texts. -/
import Derived.Test.YtlpiokepagkahaaDoorAbv
namespace Go.Proofs.YtlpiokepagkahaaDoor
set_option linter.unusedVariables false
set_option linter.unusedSimpArgs false
open Go.RowKit
attribute [local go_sem ↓] Go.wp_at_zero Go.wp_at_succ
noncomputable def leaves (t : Nat → ByteArray) (k : Nat) : Hs := leaf (t k).data.toList
noncomputable def rootOf (n : Nat) (t : Nat → ByteArray) : Hs := if n = 0 then none0 else Tree.root node n (leaves t)
theorem sum2 (w : World) (hK : KIn w) : Calls Tryd.prog 22 #[.string ⟨#[2]⟩] w fun e w' => e = .returned (.agg (hv none0).toArray) ∧ Below w.heap.size w w' := by
  rw [none0_eq]; exact sum_hv ⟨#[2]⟩ w hK (by decide)
def sLen : Value → Nat | .slice _ n _ => n | _ => 0
theorem size_hv (g : Hs) : (Tryd.prog.info? 23).map (·.size) = some (hv g).toArray.size := by rw [List.size_toArray]; exact infoH _
theorem there_hv {w : World} {B : Nat} (h : w.there B 0 32) (g : Hs) : w.there B 0 (hv g).toArray.size := by rw [List.size_toArray, hv_length]; exact h
theorem there_new (w : World) (T : TypeId) : (w.alloc (.cells zero32 T)).there w.heap.size 0 32 := there_of_row (heap_alloc_new _ _) 0 (by simp)
theorem range_new {w : World} {B : Nat} (h : w.there B 0 32) (g : Hs) : (w.setCells B 0 (hv g)).rangeAt B 0 (hv g) := World.rangeAt_setCells_same _ _ _ _ (by rw [hv_length]; exact h)
attribute [local go_sem ↓] ld23
set_option maxHeartbeats 400000 in
set_option maxRecDepth 8000 in
theorem root_none (a : Option Addr) (cap : Nat) (t : Nat → ByteArray) (w : World) (hK : KIn w) :
    Calls Tryd.prog 8 #[.slice a 0 cap] w fun e w' => e = .returned (.agg (hv (rootOf 0 t)).toArray) ∧ Below w.heap.size w w' := by
  rw [rootOf, if_pos rfl]
  go_enter Tryd.func8, Tryd.ntmps8
  go_wp2_with fail
  have b0 : Below w.heap.size w (w.alloc (.cells zero32 23)) := (Below.refl _ _).alloc (Nat.le_refl _) _
  have t0 := there_new w 23
  have k0 := hK.seq b0
  refine (sum2 _ k0).mono ?_
  rintro e w2 ⟨rfl, bq⟩
  have t2 := thereNext t0 bq
  have b2 := below_seq b0 bq
  go_wp2_with (refine wpList_store_mid rfl 23 _ _ rfl w.heap.size 0 _ rfl rfl (there_hv t2 _) (size_hv _) (all_oneCell_toArray (hv_one _)) ?_)
  exact bodyPost_ret (v := .agg (hv none0).toArray) (results_mid Tryd.results8 _ _ w.heap.size none0 rfl (range_new t2 _)) rfl ⟨rfl, below_setCells (Nat.le_refl _) _ _ b2⟩
set_option maxHeartbeats 400000 in
set_option maxRecDepth 8000 in
theorem root_some (b off n cap : Nat) (t : Nat → ByteArray) (w : World) (hK : KIn w) (hT : TextsAt w b off n t) (hz : ∀ k, k < n → (t k).size < 1152921504606845000) (hn : n ≤ 8796093022208) (h0 : 0 < n) :
    Calls Tryd.prog 8 #[.slice (some ⟨b, off, none⟩) n cap] w fun e w' => e = .returned (.agg (hv (rootOf n t)).toArray) ∧ Below w.heap.size w w' := by
  have hd0 : ((n : Int) == 0) = false := by simp; omega
  have hne : ¬ n = 0 := by omega
  rw [rootOf, if_neg hne]
  obtain ⟨R, hR⟩ : ∃ R, R = Tree.root node n (leaves t) := ⟨_, rfl⟩
  rw [← hR]
  have hB0 := hK.lt
  go_enter Tryd.func8, Tryd.ntmps8
  go_wp2_with fail
  have b0 : Below w.heap.size w (w.alloc (.cells zero32 23)) := (Below.refl _ _).alloc (Nat.le_refl _) _
  have t0 := there_new w 23
  have k0 := hK.seq b0
  refine (lowest_any b off n cap t _ k0 (hT.next b0) hz hn).mono ?_
  rintro e w2 ⟨rfl, hr2, _, bq⟩
  have t2 := thereNext t0 bq
  have b2 := below_seq b0 bq
  obtain ⟨G, hG⟩ : ∃ G, G = (w.alloc (.cells zero32 23)).heap.size := ⟨_, rfl⟩
  have hGB : w.heap.size < G := by rw [hG]; simp
  rw [← hG] at hr2 ⊢
  clear hG b0 t0 k0 bq
  generalize hB : w.heap.size = B at *
  go_wp2_with fail
  go_loopw [3] (fun v wr => ∃ (m G : Nat) (f : Nat → Hs), 0 < m ∧ m ≤ n ∧ B < G ∧ v = .slice (some ⟨G, 0, none⟩) m m ∧ Below B w wr ∧ wr.there B 0 32 ∧ HRow wr G 0 m f ∧ Tree.root node m f = R) (fun v _ => sLen v)
  case atStart => exact ⟨n, G, leaves t, h0, Nat.le_refl _, hGB, rfl, b2, t2, hr2, hR.symm⟩
  case round =>
    clear hr2 t2 b2 hGB hR
    obtain ⟨m, G, f, hm0, hmn, hGB, rfl, bel, th, hr, eR⟩ := hrel
    have kr : KIn wr := hK.below bel hB0
    by_cases h1 : 1 < m
    · have hd : decide ((1 : Int) < (m : Int)) = true := by simp; omega
      go_wp2_with fail
      refine (above_any G 0 m m f wr kr hr (by omega)).mono ?_
      rintro e w2 ⟨rfl, hr2, bq⟩
      have t2 := thereNext th bq
      have b2 : Below B w w2 := bel.trans (bq.mono (by have := bel.size; omega))
      have hGw : B < wr.heap.size := by have := hr.lt hm0; omega
      have hmu : Tree.upLen m < m := Tree.upLen_lt (by omega)
      have hmp : 0 < Tree.upLen m := by unfold Tree.upLen; omega
      generalize hu : Tree.upLen m = u at *
      go_wp2_with fail
      go_round
      case rel => exact ⟨u, wr.heap.size, Tree.up node m f, hmp, by omega, hGw, rfl, b2, t2, hr2, by rw [← eR, Tree.root_more node f (by omega), hu]⟩
      case measure => simp [sLen]; omega
    · obtain rfl : m = 1 := by omega
      have hd : decide ((1 : Int) < ((1 : Nat) : Int)) = false := by simp
      have r1 : wr.rangeAt G 0 (hv R) := by
        have := hr 0 (by omega)
        rw [← eR, Tree.root_one node f (by omega)]
        simpa using this
      have hl1 := load23 r1
      go_wp2_with (refine wpList_store_mid rfl 23 _ _ rfl B 0 _ rfl rfl (there_hv th _) (size_hv _) (all_oneCell_toArray (hv_one _)) ?_)
      exact bodyPost_ret (v := .agg (hv R).toArray) (results_mid Tryd.results8 _ _ B R rfl (range_new th _)) rfl ⟨rfl, by subst hB; exact below_setCells (Nat.le_refl _) _ _ bel⟩
end Go.Proofs.YtlpiokepagkahaaDoor
