/- The reference's root. -/
import Derived.Test.YtlpiokepagkahaaDoorRRows
import Derived.Test.YtlpiokepagkahaaDoorHol
namespace Go.Proofs.YtlpiokepagkahaaDoor
set_option linter.unusedVariables false
set_option linter.unusedSimpArgs false
open Go.RowKit
attribute [local go_sem ↓] Go.wp_at_zero Go.wp_at_succ
theorem lvl_root (n : Nat) (f : Nat → Hs) : ∀ j, (∀ k, k < j → 1 < (lvl n f k).1) → Tree.root node n f = Tree.root node (lvl n f j).1 (lvl n f j).2
  | 0, _ => rfl
  | j + 1, h => by
    rw [lvl_root n f j (fun k hk => h k (by omega)), Tree.root_more node _ (by have := h j (by omega); omega)]
    rfl
attribute [local go_sem ↓] ld23 st23 bs25
attribute [local go_sem] run_bs eqH
set_option maxHeartbeats 400000 in
set_option maxRecDepth 8000 in
theorem refRoot_in {w : World} {a : Option Addr} {n : Nat} (cap : Nat) {t : Nat → ByteArray} (hK : KIn w) (hT : TextsIn w a n t) (hz : ∀ k, k < n → (t k).size ≤ 2097152) (hn : n ≤ 2097152) :
    Calls Tryd.prog 16 #[.slice a n cap] w fun e w' => e = .returned (.agg (hv (rootOf n t)).toArray) ∧ Below w.heap.size w w' := by
  have b0 : Below w.heap.size w (w.alloc (.cells zero32 23)) := (Below.refl _ _).alloc (Nat.le_refl _) _
  have t0 := there_new w 23
  rcases Nat.eq_zero_or_pos n with rfl | h0
  · have eR : rootOf 0 t = none0 := by unfold rootOf; rw [if_pos rfl]
    rw [eR]
    clear eR
    go_enter Tryd.func16, Tryd.ntmps16
    go_wp2_with fail
    refine (refSum2 _).mono ?_
    rintro e w2 ⟨rfl, bq⟩
    have t2 := thereNext t0 bq
    have b2 := below_seq b0 bq
    go_wp2_with (refine wpList_store_mid rfl 23 _ _ rfl w.heap.size 0 _ rfl rfl (there_hv t2 _) (size_hv _) (all_oneCell_toArray (hv_one _)) ?_)
    exact bodyPost_ret (v := .agg (hv none0).toArray) (results_mid Tryd.results16 _ _ w.heap.size none0 rfl (range_new t2 _)) rfl ⟨rfl, below_setCells (Nat.le_refl _) _ _ b2⟩
  · obtain ⟨b, off, rfl, hTA, _⟩ := hT.at h0
    have hd0 : ((n : Int) == 0) = false := by simp; omega
    obtain ⟨R, hR⟩ : ∃ R, R = rootOf n t := ⟨_, rfl⟩
    rw [← hR]
    have HR : Hid (R = rootOf n t) := hR
    clear hR
    go_enter Tryd.func16, Tryd.ntmps16
    go_wp2_with fail
    refine (refRows_any b off n cap t _ (hK.seq b0) (hTA.next b0) hz hn h0).mono ?_
    rintro e w2 ⟨v, vs, rfl, own, hRI, hv0, hlast, hbig, bq⟩
    have t2 := thereNext t0 bq
    have b2 := below_seq b0 bq
    clear t0 b0
    obtain ⟨l1, hl1⟩ : ∃ l1, l1 = vs.length - 1 := ⟨_, rfl⟩
    rw [← hl1] at hlast
    have hg : vs[l1]? = some vs[l1] := List.getElem?_eq_getElem (by omega)
    obtain ⟨g, c, hvg, hrow, _, hpos⟩ := hRI l1 _ hg
    have elv : (lvl n (leaves t) l1).1 = 1 := by omega
    have eR : R = (lvl n (leaves t) l1).2 0 := by
      rw [HR.out]; unfold rootOf; rw [if_neg (by omega), lvl_root n (leaves t) l1 (fun k hk => hbig k (by omega)), Tree.root_one node _ hlast]
    rw [elv] at hvg hrow
    have r1 : w2.rangeAt g 0 (hv R) := by rw [eR]; have := hrow 0 (by omega); simpa using this
    have hl23 := load23 r1
    rcases own.2 with ⟨_, h2⟩ | ⟨G, cp, cur, rfl, hG1, hG2, hG3, hG4, hG5, hG6⟩
    · omega
    have hvl : vs.length ≤ 9223372036854775807 := by unfold maxLen at hG4; omega
    obtain ⟨vl, hvl2⟩ : ∃ vl, vl = vs.length := ⟨_, rfl⟩
    have cR : w2.cell? ⟨G, l1, none⟩ = some (.slice (some ⟨g, 0, none⟩) 1 c) := by
      rw [own.cellAt l1 (by omega), hg, hvg]
    rw [← hvl2] at hv0 hvl ⊢
    have ev : (vl : Int) - 1 = (l1 : Int) := by omega
    have ew : IntKind.i64.wrap (l1 : Int) = (l1 : Int) := by rw [IntKind.wrap_i64]; omega
    have i0 : (0 : Int) ≤ (l1 : Int) := by omega
    have i1 : (l1 : Int) < (vl : Int) := by omega
    clear own hRI hlast hbig hvg hrow elv eR hl1 hvl2 hG1 hG2 hG3 hG4 hG5 hG6 hg
    go_wp2_with (refine wpList_store_mid rfl 23 _ _ rfl w.heap.size 0 _ rfl rfl (there_hv t2 _) (size_hv _) (all_oneCell_toArray (hv_one _)) ?_)
    exact bodyPost_ret (v := .agg (hv R).toArray) (results_mid Tryd.results16 _ _ w.heap.size R rfl (range_new t2 _)) rfl ⟨rfl, below_setCells (Nat.le_refl _) _ _ b2⟩
end Go.Proofs.YtlpiokepagkahaaDoor
