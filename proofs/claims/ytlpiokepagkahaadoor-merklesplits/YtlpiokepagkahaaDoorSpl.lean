/- MerkleSplits: the walk. -/
import Derived.Test.YtlpiokepagkahaaDoorTxt
import Derived.Laws.IdiomStrings
import Derived.Deep.QuietTactic
namespace Go.Proofs.YtlpiokepagkahaaDoor
set_option linter.unusedVariables false
set_option linter.unusedSimpArgs false
open Go.RowKit
namespace merkleSplits
attribute [local go_sem ↓] Go.wp_at_zero Go.wp_at_succ
attribute [local go_sem ↓] ld23 st23 sl22
attribute [local go_sem] eqH
abbrev FirstOK : Prop := ∀ w, KIn w → Calls Tryd.prog 11 #[] w fun e w' => e = .returned (.bool true) ∧ Below w.heap.size w w'
set_option maxHeartbeats 1000000 in
set_option maxRecDepth 8000 in
theorem walk (hF : FirstOK) (a : Option Addr) (n cap : Nat) (s : ByteArray) (t : Nat → ByteArray) (zs : s.size ≤ 140737488351232) (w : World) (hT : TextsIn w a n t) (hz : ∀ k, k < n → (t k).size ≤ 140737488351232) (hn : n ≤ 8796093021952) (hc : n ≤ cap) (hK : KIn w) :
    Calls Tryd.prog 4 #[.slice a n cap, .string s] w fun e w' => e = .returned (.bool true) ∧ Below w.heap.size w w' := by
  have zs' : s.size < 1152921504606845000 := by omega
  have hz' : ∀ k, k < n → (t k).size < 1152921504606845000 := fun k hk => by have := hz k hk; omega
  have u23 := Tryd.underlying23
  obtain ⟨one, hone⟩ : ∃ x, x = leaf s.data.toList := ⟨_, rfl⟩
  have i23 := infoH one
  have Hone : Hid (one = leaf s.data.toList) := hone
  clear hone
  go_enter Tryd.func4, Tryd.ntmps4
  go_wp2_with fail
  have ba : Below w.heap.size w (w.alloc (.cells #[.string s] 9)) := (Below.refl _ _).alloc (Nat.le_refl _) _
  have T1 : TextsAt (w.alloc (.cells #[.string s] 9)) w.heap.size 0 1 (fun _ => s) := fun k hk => by
    rw [Nat.zero_add, cell_of_row _ _ _ _ _ _ (heap_alloc_new _ _)]
    have : k = 0 := by omega
    subst this; rfl
  refine (root_any w.heap.size 0 1 1 (fun _ => s) (hK.seq ba) T1 (fun _ _ => zs') (by omega)).mono ?_
  rintro e w1 ⟨rfl, b1⟩
  rw [rootOf_one, ← Hone.out]
  have b1' := below_seq ba b1
  have tn := there_new w1 23
  have hst := store_hv tn one
  go_wp2_with fail
  obtain ⟨W1, hW1, S0⟩ : ∃ W, W = (w1.alloc (.cells zero32 23)).setCells w1.heap.size 0 (hv one) ∧ KB w w1.heap.size one W :=
    ⟨_, rfl, by
      have bb := below_seq b1' (below_setCells (Nat.le_refl _) (hv one) 0 ((Below.refl w1.heap.size w1).alloc (Nat.le_refl _) (.cells zero32 23)))
      exact ⟨hK.seq bb, bb, range_new tn one⟩⟩
  rw [← hW1]
  clear hW1 hst tn b1 b1' T1 ba
  generalize w1.heap.size = O at *
  have eo := eqb_self one
  go_region_held3 (fun w' => KB w O one w' ∧ w'.rangeAt O 0 (hv one)) (first | exact S0.drew.both | exact (KB.next (And.left (by assumption)) bq).both)
    (first | (go_at_call 12; refine (leaf_hv s _ (KB.k (And.left (by assumption))) zs').mono ?_; rw [← Hone.out]; rintro e w' ⟨rfl, bq⟩) | (go_at_call 11; refine (hF _ (KB.k (And.left (by assumption)))).mono ?_; rintro e w' ⟨rfl, bq⟩))
  rename_i hH
  have S1 := hH.1
  clear S0 hH
  clear bq
  generalize w' = W2 at *
  by_cases h2 : n < 2
  · have hd : decide ((n : Int) < 2) = true := by simp; omega
    rcases Nat.eq_zero_or_pos n with rfl | h0
    · go_wp2_with fail
      go_quiet (fail)
      all_goals (go_wp2_with fail; go_ret; exact ⟨rfl, (S1.drewN nq).bel⟩)
    · obtain rfl : n = 1 := by omega
      obtain ⟨b, off, rfl, hTA, hb⟩ := hT.at (by omega)
      have c1 : ∀ w', KB w O one w' → w'.cell? ⟨b, off, none⟩ = some (.string (t 0)) := fun w' h => by
        have := (hTA.below h.bel hb) 0 (by omega); rwa [Nat.add_zero] at this
      obtain ⟨y, hy⟩ : ∃ y, y = leaf (t 0).data.toList := ⟨_, rfl⟩
      have ey := eqb_self y
      have Hy : Hid (y = leaf (t 0).data.toList) := hy
      clear hy
      go_wp2_with fail
      go_region_held3 (fun w' => KB w O one w' ∧ w'.cell? ⟨b, off, none⟩ = some (.string (t 0))) (first | exact ⟨S1.drew, c1 _ S1.drew⟩ | exact ⟨KB.next (And.left (by assumption)) bq, c1 _ (KB.next (And.left (by assumption)) bq)⟩)
        (first | (go_at_call 8; refine (root_any b off 1 cap t (KB.k (And.left (by assumption))) (hTA.below (KB.bel (And.left (by assumption))) hb) hz' (by omega)).mono ?_; rw [rootOf_one, ← Hy.out]; rintro e w' ⟨rfl, bq⟩) | (go_at_call 12; refine (leaf_hv (t 0) _ (KB.k (And.left (by assumption))) (hz' 0 (by omega))).mono ?_; rw [← Hy.out]; rintro e w' ⟨rfl, bq⟩))
      rename_i hH
      go_wp2_with fail
      go_ret
      exact ⟨rfl, hH.1.bel⟩
  · have hd : decide ((n : Int) < 2) = false := by simp; omega
    obtain ⟨b, off, rfl, hTA, hb⟩ := hT.at (by omega)
    go_wp2_with fail
    go_loopw [6] (fun v wr => ∃ j : Nat, v = .int .i64 ((2 ^ j : Nat) : Int) ∧ 2 ^ j < n ∧ wr = W2) (fun v _ => n - (intOf v).toNat)
    case atStart => exact ⟨0, rfl, by show 1 < n; omega, rfl⟩
    case round =>
      obtain ⟨j, rfl, hj, rfl⟩ := hrel
      obtain ⟨K, hKj⟩ : ∃ K, K = 2 ^ j := ⟨_, rfl⟩
      rw [← hKj] at hj ⊢
      have HK : Hid (K = 2 ^ j) := hKj
      have hK0 : 0 < K := by rw [hKj]; exact Nat.two_pow_pos j
      clear hKj
      obtain ⟨K2, hK2⟩ : ∃ K2, K2 = 2 * K := ⟨_, rfl⟩
      have eK2 : 2 * (K : Int) = (K2 : Int) := by omega
      have ew : IntKind.i64.wrap (K2 : Int) = (K2 : Int) := by rw [IntKind.wrap_i64]; omega
      have HK2 : Hid (K2 = 2 * K) := hK2
      have hle : K2 ≤ 2 * n := by omega
      clear hK2
      by_cases hlt : K2 < n
      · have hd : decide ((K2 : Int) < (n : Int)) = true := by simp; omega
        go_wp2_with fail
        go_round
        case rel => exact ⟨j + 1, by rw [Nat.pow_succ, HK2.out, HK.out, Nat.mul_comm], by rw [Nat.pow_succ, ← HK.out]; have := HK2.out; omega, trivial⟩
        case measure => simp [intOf]; have := HK2.out; omega
      · have hd : decide ((K2 : Int) < (n : Int)) = false := by simp; omega
        have s1 := slice_to b off n cap K (by omega)
        have s2 := slice_from b off n cap K hj hc
        have hspl : rootOf n t = node (rootOf K t) (rootOf (n - K) (fun i => t (K + i))) := by
          have := rootOf_split j n t (by rw [← HK.out]; exact hj) (by rw [Nat.pow_succ, ← HK.out]; have := HK2.out; omega)
          rwa [← HK.out] at this
        have T1 := hTA.first K (by omega)
        have T2 := hTA.sub K (n - K) (by omega)
        have r1 : ∀ {w' : World}, KB w O one w' → Calls Tryd.prog 8 #[.slice (some ⟨b, off, none⟩) n cap] w' fun e w2 => e = .returned (.agg (hv (rootOf n t)).toArray) ∧ Below w'.heap.size w' w2 := fun h => root_any b off n cap t h.k (hTA.below h.bel hb) hz' (by omega)
        have r2 : ∀ {w' : World}, KB w O one w' → Calls Tryd.prog 8 #[.slice (some ⟨b, off, none⟩) K cap] w' fun e w2 => e = .returned (.agg (hv (rootOf K t)).toArray) ∧ Below w'.heap.size w' w2 := fun h => root_any b off K cap t h.k (T1.below h.bel hb) (fun k hk => hz' k (by omega)) (by omega)
        have r3 : ∀ {w' : World}, KB w O one w' → Calls Tryd.prog 8 #[.slice (some ⟨b, off + K, none⟩) (n - K) (cap - K)] w' fun e w2 => e = .returned (.agg (hv (rootOf (n - K) (fun i => t (K + i)))).toArray) ∧ Below w'.heap.size w' w2 := fun h => root_any b (off + K) (n - K) (cap - K) _ h.k (T2.below h.bel hb) (fun k hk => hz' _ (by omega)) (by omega)
        generalize hR : rootOf n t = R at *
        generalize hR1 : rootOf K t = R1 at *
        generalize hR2 : rootOf (n - K) (fun i => t (K + i)) = R2 at *
        have HS : Hid (R = node R1 R2) := hspl
        have nd : ∀ {w' : World}, KB w O one w' → Calls Tryd.prog 13 #[.agg (hv R1).toArray, .agg (hv R2).toArray] w' fun e w2 => e = .returned (.agg (hv R).toArray) ∧ Below w'.heap.size w' w2 := fun h => by rw [HS.out]; exact node_hv R1 R2 _ h.k
        have HR1 : Hid (R1 = rootOf K t) := hR1.symm
        obtain ⟨R3, hR3⟩ : ∃ R3, R3 = node R1 one := ⟨_, rfl⟩
        have HR3 : Hid (R3 = node R1 one) := hR3
        have nd3 : ∀ {w' : World}, KB w O one w' → Calls Tryd.prog 13 #[.agg (hv R1).toArray, .agg (hv one).toArray] w' fun e w2 => e = .returned (.agg (hv R3).toArray) ∧ Below w'.heap.size w' w2 := fun h => by rw [HR3.out]; exact node_hv R1 one _ h.k
        obtain ⟨i9, z9, f1, f2, f3, f4, f5⟩ := info9x
        clear hspl hR hR1 hR2 T2 hR3
        have eR3 := eqb_self R3
        have eR := eqb_self R
        go_wp2_with fail
        go_region_held3 (fun w' => KB w O one w') (first | exact S1.drew | exact KB.next (by assumption) bq)
          (first | (go_at_call 8; first | (with_reducible refine Calls.mono (r1 (by assumption)) ?_; rintro e w' ⟨rfl, bq⟩) | (with_reducible refine Calls.mono (r2 (by assumption)) ?_; rintro e w' ⟨rfl, bq⟩) | (with_reducible refine Calls.mono (r3 (by assumption)) ?_; rintro e w' ⟨rfl, bq⟩)) | (go_at_call 13; refine (nd (by assumption)).mono ?_; rintro e w' ⟨rfl, bq⟩))
        rename_i hH
        clear bq
        generalize w' = W3 at *
        clear S1
        have hB0 := hK.lt
        have hOlt := hH.lt
        have hbs := hH.bel.size
        go_wp2_with (first
          | (refine wpList_append_lies _ rfl _ _ 22 rfl w.heap.size 9 i9 z9 1 16 Tryd.underlying22 f1 f2 f3 f4 f5 (by omega) (.slice none 0 0) 0 [] rfl (World.ownsRow_nil _ _ _ _) ⟨b, off, none⟩ K cap (strL t K) rfl (by rw [strL_length]; omega) (strL_news (T1.below hH.bel hb)) (strL_one _ _) hK0 (by unfold maxLen; omega) (by omega) hbs _ rfl ?_; intro g1 c1 w4 own4 grow4 at4 lt4; rw [Nat.zero_add, List.nil_append] at own4)
          | (refine wpList_append_lies _ rfl _ _ 22 rfl w.heap.size 9 i9 z9 1 16 Tryd.underlying22 f1 f2 f3 f4 f5 (by omega) (.slice (some ⟨g1, 0, none⟩) K c1) K (strL t K) rfl (own4.alloc _) ⟨w4.heap.size, 0, none⟩ 1 1 [.string s] rfl rfl (news_str _ _ _) (by simp [Value.oneCell']) (by omega) (by unfold maxLen; omega) (by omega) (by have := grow4.size; simp; omega) _ rfl ?_; intro g2 c2 w5 own5 grow5 at5 lt5))
        have hg1 : g1 = W3.heap.size := by rcases at4 with h | h; (simp [Value.ownBlock] at h); exact h
        have Q4 : KB w O one w4 := hH.grow grow4 (fun k hk => by simp [Value.ownBlock] at hk) hB0 hK
        have QA : KB w O one (w4.alloc (.cells #[.string s] 9)) := Q4.next ((Below.refl _ _).alloc (Nat.le_refl _) _)
        have Q5 : KB w O one w5 := QA.grow grow5 (fun k hk => by simp [Value.ownBlock] at hk; omega) hB0 hK
        have TG : TextsAt w5 g2 0 (K + 1) (grownT t K s) := own_texts own5 (fun i hi => grown_get t K s i hi)
        have hg2 : w.heap.size ≤ g2 ∧ g2 < w5.heap.size := own5.lt g2 rfl
        have rG : ∀ {w' : World}, Below w5.heap.size w5 w' → KB w O one w' → Calls Tryd.prog 8 #[.slice (some ⟨g2, 0, none⟩) (K + 1) c2] w' fun e w2 => e = .returned (.agg (hv R3).toArray) ∧ Below w'.heap.size w' w2 := fun bb h => by
          have := root_any g2 0 (K + 1) c2 (grownT t K s) h.k (TG.next bb) (fun k hk => by unfold grownT; split; exact hz' k (by omega); exact zs') (by omega)
          rwa [rootOf_grown j K t s HK.out, ← HR1.out, ← Hone.out, ← HR3.out] at this
        clear own4 grow4 at4 lt4 own5 grow5 at5 lt5 Q4 QA hH TG hOlt hbs f1 f2 f3 f4 f5 r1 r3 nd
        go_wp2_with fail
        go_region_held3 (fun w' => (KB w O one w' ∧ Below w5.heap.size w5 w') ∧ w'.rangeAt O 0 (hv one)) (first | exact ⟨⟨Q5.drew, (Below.refl _ _).drew⟩, Q5.drew.r⟩ | exact ⟨⟨KB.next (And.left (And.left (by assumption))) bq, below_seq (And.right (And.left (by assumption))) bq⟩, (KB.next (And.left (And.left (by assumption))) bq).r⟩)
          (first | (go_at_call 8; first | (with_reducible refine Calls.mono (rG (And.right (And.left (by assumption))) (And.left (And.left (by assumption)))) ?_; rintro e w' ⟨rfl, bq⟩) | (with_reducible refine Calls.mono (r2 (And.left (And.left (by assumption)))) ?_; rintro e w' ⟨rfl, bq⟩)) | (go_at_call 13; refine (nd3 (And.left (And.left (by assumption)))).mono ?_; rintro e w' ⟨rfl, bq⟩))
        rename_i hH
        go_wp2_with fail
        go_ret
        exact ⟨rfl, hH.1.1.bel⟩
end merkleSplits
end Go.Proofs.YtlpiokepagkahaaDoor
