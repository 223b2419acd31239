/- The reference's row above one. -/
import Derived.Test.YtlpiokepagkahaaDoorRLf
namespace Go.Proofs.YtlpiokepagkahaaDoor
set_option linter.unusedVariables false
set_option linter.unusedSimpArgs false
open Go.RowKit
attribute [local go_sem ↓] Go.wp_at_zero Go.wp_at_succ
def rowL (m : Nat) (F : Nat → Hs) : List Hs := (List.range m).map F
theorem rowL_length (m : Nat) (F : Nat → Hs) : (rowL m F).length = m := by simp [rowL]
theorem rowL_succ (m : Nat) (F : Nat → Hs) : rowL (m + 1) F = rowL m F ++ [F m] := by simp [rowL, List.range_succ]
theorem rowL_get (m : Nat) (F : Nat → Hs) (k : Nat) (h : k < m) : (rowL m F)[k]? = some (F k) := by simp [rowL, h]
/-- An owned row of hashes, with hashes in it, lies in a block of its own. -/
theorem own_hrow {w : World} {base m : Nat} {v : Value} {F : Nat → Hs} (h : w.ownsRow base 23 32 v m (flatL (rowL m F))) (h0 : 0 < m) : ∃ g c, v = .slice (some ⟨g, 0, none⟩) m c ∧ base ≤ g ∧ g < w.heap.size ∧ HRow w g 0 m F := by
  rcases h.2 with ⟨_, h2⟩ | ⟨g, cap, cur, h1, h2, h3, h4, h5, h6, h7⟩
  · omega
  · refine ⟨g, cap, h1, h2, lt_of_row h3, fun k hk => ?_⟩
    have h' : w.ownsRow base 23 32 v (rowL m F).length (flatL (rowL m F)) := by rw [rowL_length]; exact h
    obtain ⟨g', c', e, _, hr⟩ := own_range h' (rowL_get m F k hk)
    rw [h1] at e
    injection e with e1
    injection e1 with e1
    injection e1 with e1
    subst e1
    rw [Nat.zero_add]; exact hr
attribute [local go_sem ↓] ld23 st23 bs25
attribute [local go_sem] run_bs
set_option maxHeartbeats 400000 in
set_option maxRecDepth 8000 in
theorem refAbove_any (b off n cap : Nat) (f : Nat → Hs) (w : World) (hK : KIn w) (hr : HRow w b off n f) (hn : n ≤ 2097152) :
    Calls Tryd.prog 40 #[.slice (some ⟨b, off, none⟩) n cap] w fun e w' => ∃ v, e = .returned v ∧ w'.ownsRow w.heap.size 23 32 v (Tree.upLen n) (flatL (rowL (Tree.upLen n) (Tree.up node n f))) ∧ Below w.heap.size w w' := by
  obtain ⟨ti, z, e1, e2, e3, e4, e5⟩ := info23x
  have hB0 := hK.lt
  obtain ⟨F, hF⟩ : ∃ F, F = Tree.up node n f := ⟨_, rfl⟩
  have HF : Hid (F = Tree.up node n f) := hF
  rw [← hF]
  clear hF
  go_enter Tryd.func40, Tryd.ntmps40
  go_wp2_with fail
  generalize hB : w.heap.size = B at *
  go_loopw [3, 4] (fun v i wr => ∃ k : Nat, k ≤ Tree.upLen n ∧ i = .int .i64 ((2 * k : Nat) : Int) ∧ Below B w wr ∧ wr.ownsRow B 23 32 v k (flatL (rowL k F))) (fun _ i _ => n + 1 - (intOf i).toNat)
  case atStart => exact ⟨0, by omega, rfl, Below.refl _ _, World.ownsRow_nil _ _ _ _⟩
  case round =>
    obtain ⟨k, hk, rfl, bel, own⟩ := hrel
    obtain ⟨p, hp⟩ : ∃ p, p = 2 * k := ⟨_, rfl⟩
    rw [← hp]
    obtain ⟨q, hq⟩ : ∃ q, q = p + 1 := ⟨_, rfl⟩
    obtain ⟨p2, hp2⟩ : ∃ q, q = p + 2 := ⟨_, rfl⟩
    have hku : p < n ↔ k < Tree.upLen n := by unfold Tree.upLen; omega
    have hkl : k ≤ 1048576 := by unfold Tree.upLen at hk; omega
    have eq : (p : Int) + 1 = (q : Int) := by omega
    have ep2 : (p : Int) + 2 = (p2 : Int) := by omega
    have i0 : (0 : Int) ≤ (p : Int) := by omega
    have i2 : (0 : Int) ≤ (q : Int) := by omega
    have Hp : Hid ((p = 2 * k ∧ q = 2 * k + 1) ∧ p2 = 2 * (k + 1)) := ⟨⟨hp, by omega⟩, by omega⟩
    have hple : p ≤ 2097154 := by omega
    have hbs := bel.size
    clear hp hq hp2
    have ewq : IntKind.i64.wrap (q : Int) = (q : Int) := by rw [IntKind.wrap_i64]; have := Hp.out; omega
    have ewp : IntKind.i64.wrap (p2 : Int) = (p2 : Int) := by rw [IntKind.wrap_i64]; have := Hp.out; omega
    by_cases hlt : p < n
    · have hd : decide ((p : Int) < (n : Int)) = true := by simp; omega
      have i1 : (p : Int) < (n : Int) := by omega
      have kr : KIn wr := hK.below bel hB0
      have r1 := hr.at hlt bel hB
      by_cases hs : q < n
      · have hd2 : decide ((q : Int) < (n : Int)) = true := by simp; omega
        have i3 : (q : Int) < (n : Int) := by omega
        have r2 := hr.at hs bel hB
        have hl1 := load23 (w := wr.drew) (World.rangeAt_drew _ _ _ _ |>.2 r1)
        have hl2 := load23 (w := wr.drew) (World.rangeAt_drew _ _ _ _ |>.2 r2)
        have hFk : F k = node (f p) (f q) := by rw [HF.out]; exact up_in n f k p q Hp.out.1 hs
        have HFk : Hid (F k = node (f p) (f q)) := hFk
        clear hFk
        go_wp2_with fail
        go_region_law (first
          | (go_simp; go_at_call 19; refine (refNode_hv (f p) (f q) _ (kr.seq ((Below.refl _ _).drew))).mono ?_; rintro e w2 ⟨rfl, bq⟩; have own2 := own_next own.drew bq; have hbs2 := bq.size)
          | (refine step_append_lies _ (by rfl) _ _ 25 (by rfl) B 23 ti z 32 32 Tryd.underlying25 e1 e2 e3 e4 e5 (by omega) u3 k (flatL (rowL k F)) (by rfl) (own2.alloc _) _ 1 1 (hv (node (f p) (f q))) (by rfl) (hv_length _) (news_alloc w2 _ _) (hv_one _) (by omega) (by unfold maxLen; omega) (by omega) (by simp at hbs2 ⊢; omega) _ rfl ?_; intro g3 c3 w3 own3 grow3 at3 lt3))
        all_goals (go_wp2_with fail; go_round)
        all_goals first
          | (show n + 1 - ((p2 : Int)).toNat < n + 1 - ((p : Int)).toNat; have := Hp.out; omega)
          | (have bw : Below B w w3 := (((bel.drew).trans (bq.mono (by simp; omega))).alloc (by simp at hbs2; omega) _).grown grow3 (by simp at hbs2 ⊢; omega) (fun k hk => (own.lt k hk).1)
             refine ⟨k + 1, by have := hku.1 hlt; omega, by rw [Hp.out.2], bw, ?_⟩
             rw [rowL_succ, flatL_snoc, HFk.out]
             exact own3)
      · have hd2 : decide ((q : Int) < (n : Int)) = false := by simp; omega
        have hl1 := load23 r1
        have hFk : F k = f p := by rw [HF.out]; exact up_last n f k p Hp.out.1.1 (by have := Hp.out; omega)
        have HFk : Hid (F k = f p) := hFk
        clear hFk
        go_wp2_with (refine wpList_append_lies _ rfl _ _ 25 rfl B 23 ti z 32 32 Tryd.underlying25 e1 e2 e3 e4 e5 (by omega) u3 k (flatL (rowL k F)) rfl (own.alloc _) _ 1 1 (hv (f p)) rfl (hv_length _) (news_alloc _ _ _) (hv_one _) (by omega) (by unfold maxLen; omega) (by omega) (by simp; omega) _ rfl ?_; intro g3 c3 w3 own3 grow3 at3 lt3)
        go_round
        case rel =>
          have bw : Below B w w3 := (bel.alloc (by omega) _).grown grow3 (by simp; omega) (fun k hk => (own.lt k hk).1)
          refine ⟨k + 1, by have := hku.1 hlt; omega, by rw [Hp.out.2], bw, ?_⟩
          rw [rowL_succ, flatL_snoc, HFk.out]
          exact own3
        case measure => show n + 1 - ((p2 : Int)).toNat < n + 1 - ((p : Int)).toNat; have := Hp.out; omega
    · have hd : decide ((p : Int) < (n : Int)) = false := by simp; omega
      have ek : k = Tree.upLen n := by have : ¬ k < Tree.upLen n := fun h => hlt (hku.2 h); omega
      go_wp2_with fail
      go_ret
      subst hB
      exact ⟨_, rfl, by rw [← ek]; exact own, bel⟩
end Go.Proofs.YtlpiokepagkahaaDoor
